/-
  canRestore.
-/
import Derived.Test.YtibdogniiglcjaaGreatBkFit2
import Derived.Test.YtibdogniiglcjaaGreatBkColl
import Derived.Maps.AppendAt
namespace Go.Proofs.YtibdogniiglcjaaGreat
open Go.RowKit Go.Sort

theorem infoI : (Tryz.prog.info? 3).map (fun i => (i.zero, i.size, i.bytes)) = some (some (.int .i64 0), 1, 8) := by kernel_rfl
theorem append_i {w : World} (ty : TypeId) (base : Nat) (v : Value) (n : Nat) (xs : List Value) (hown : w.ownsRow base 3 1 v n xs) (x : Int) (hn : n ≤ 100000) (hbase : base ≤ w.heap.size) :
    ∃ v' w', (Builtin.append_ #[111, 111] ty #[v, .slice (some ⟨w.heap.size, 0, none⟩) 1 1]).run Tryz.prog (w.alloc (.cells #[.int .i64 x] 3)) = .ok v' w' ∧ w'.ownsRow base 3 1 v' (n + 1) (xs ++ [.int .i64 x]) ∧ (w.alloc (.cells #[.int .i64 x] 3)).grownBy w' v.ownBlock := by
  obtain ⟨i0, hi, hz0, hz1, hz2⟩ := info_parts infoI
  have hb : (w.alloc (.cells #[.int .i64 x] 3)).heap[w.heap.size]? = some (.cells #[.int .i64 x] 3 (0, 0)) := heap_alloc_new _ _ rfl
  obtain ⟨v', w', hr, h2, h3, _⟩ := run_append_own_at (P := Tryz.prog) (w := w.alloc (.cells #[.int .i64 x] 3)) base 111 ty 3 i0 (.int .i64 0) 1 8 Tryz.underlying111 hi hz0 hz1 hz2 rfl (by omega) v n xs (World.ownsRow.alloc hown _) ⟨w.heap.size, 0, none⟩ 1 1 [.int .i64 x] rfl (fun j u hu => by
      rw [addr_add, Nat.zero_add]
      simp only [World.cell?, hb]
      simpa using hu) (by intro u hu; simp at hu; subst hu; rfl) (by unfold maxLen; omega) (by omega) (by simp; omega)
  exact ⟨v', w', hr, h2, h3⟩
theorem wpL_appI {w : World} {ops : Array Oper} {rest : List Oper} {o : Oper} {a : Act} {Q : Exit → Act → World → Prop} (hgd : o.guard = none) (s x : Operand) (TS : TypeId)
    (ho : o.op = .call { callee := .builtin .append, args := #[s, x], argTypes := #[TS, TS] }) (v u : Value) (hs : a.eval s = v) (hx : a.eval x = u) {post : Value → World → Prop}
    (hr : ∀ ty, ∃ v' w', (Builtin.append_ #[TS, TS] ty #[v, u]).run Tryz.prog w = .ok v' w' ∧ post v' w') (h : ∀ v' w', post v' w' → wpList Tryz.prog ops Q rest (a.put o.dst v') w') : wpList Tryz.prog ops Q (o :: rest) a w := by
  obtain ⟨v', w', hr, h2⟩ := hr o.type
  refine wpList_plain hgd fun K hK' => ?_
  unfold Oper.wp
  simp [execOp, ho, resolve, invoke, builtin, hs, hx, hr, Result.andThen]
  exact hK' _ _ (h v' w' h2)
theorem rowGrown {w w' : World} {base : Nat} {T : TypeId} {sz n : Nat} {v : Value} {xs : List Value} (h : w.ownsRow base T sz v n xs) (hg : w.grownBy w' v.ownBlock) {W : World} {B : Nat} (hb : Below B W w) (hB : B ≤ base) (hs : B ≤ w.heap.size) : Below B W w' :=
  hb.trans ((Below.refl _ _).grown hg hs (fun k e => by have := (World.ownsRow.lt h k e).1; omega))
set_option maxRecDepth 100000 in
set_option maxHeartbeats 8000000 in
theorem canRestore_any (N : Nat) (w : World) (s : Sn) (h : SnAt N w s) (hN : N ≤ w.heap.size) (ho : SnOK s) :
    Calls Tryz.prog 42 #[snv s] w fun e w' => FitPost w (CanR s) e w' := by
  obtain ⟨la, pa, pc, pins, ca, cc, chs⟩ := s
  obtain ⟨pn, hpn⟩ : ∃ pn, pn = pins.length := ⟨_, rfl⟩
  obtain ⟨cn, hcn⟩ : ∃ cn, cn = chs.length := ⟨_, rfl⟩
  have hnp := ho.np
  have hnc := ho.nc
  simp only [snv] at *
  obtain ⟨W1, hW1⟩ : ∃ W1, W1 = w.alloc (.cells #[.int .i64 la, .slice pa pn pc, .slice ca cn cc] 25) := ⟨_, rfl⟩
  obtain ⟨Kb, hKb⟩ : ∃ Kb, Kb = w.heap.size := ⟨_, rfl⟩
  have HB : Hid (Below w.heap.size w W1 ∧ W1.heap[Kb]? = some (.cells #[.int .i64 la, .slice pa pn pc, .slice ca cn cc] 25 (0, 0))) := by
    rw [hW1, hKb]
    exact ⟨(Below.refl _ _).alloc (Nat.le_refl _) _, heap_alloc_new _ _ rfl⟩
  have HS : Hid (∀ W, Below W1.heap.size W1 W → SnAt N W ⟨la, pa, pc, pins, ca, cc, chs⟩) := fun W hW => by
    have hb := HB.out.1
    exact (h.below (hb.mono hN)).below (hW.mono (by have := hb.size; omega))
  have HPf : Hid (0 ≤ la ∧ la ≤ 1099511627776 → Calls Tryz.prog 63 #[.agg #[.int .i64 la, .slice pa pn pc, .slice ca cn cc]] W1 fun e w' => FitPost W1 (PnOK la pins) e w') := fun hla => by
    have h1 := pinsFit_any N W1 ⟨la, pa, pc, pins, ca, cc, chs⟩ (HS.out W1 (Below.refl _ _)) (by have := HB.out.1.size; omega) ho hla
    simp only [snv, ← hpn, ← hcn] at h1
    exact h1
  have k0 : W1.cell? ⟨Kb, 0, none⟩ = some (.int .i64 la) := by have h1 := HB.out.2; simp [World.cell?, h1]
  have k1 : W1.cell? ⟨Kb, 1, none⟩ = some (.slice pa pn pc) := by have h1 := HB.out.2; simp [World.cell?, h1]
  have k2 : W1.cell? ⟨Kb, 2, none⟩ = some (.slice ca cn cc) := by have h1 := HB.out.2; simp [World.cell?, h1]
  have HO := hidC ho
  rw [← hpn] at hnp ⊢
  rw [← hcn] at hnc ⊢
  have HPn := hidC hpn
  have HCn := hidC hcn
  clear h hpn hcn ho
  go_enter Tryz.func42, Tryz.ntmps42
  by_cases h1 : la < 0
  · have h1b : decide (la < 0) = true := decide_eq_true h1
    go_wp2_with fail
    rw [← hW1, ← hKb]
    go_wp2
    go_ret
    exact FitPost.no (fun h => by have h3 : 0 ≤ la ∧ la ≤ 1099511627776 := h.1; omega) HB.out.1
  have h1b : decide (la < 0) = false := decide_eq_false h1
  by_cases h2 : 1099511627776 < la
  · have h2b : decide (1099511627776 < la) = true := decide_eq_true h2
    go_wp2_with fail
    rw [← hW1, ← hKb]
    go_wp2
    go_ret
    exact FitPost.no (fun h => by have h3 : 0 ≤ la ∧ la ≤ 1099511627776 := h.1; omega) HB.out.1
  have h2b : decide (1099511627776 < la) = false := decide_eq_false h2
  have HPf2 := hidC (HPf.out ⟨by omega, by omega⟩)
  clear HPf
  go_wp2_with fail
  rw [← hW1, ← hKb]
  clear hW1 hKb
  clear k0
  refine HPf2.out.mono ?_
  rintro e W2 ⟨r, rfl, hr, hb2⟩
  have HR := hidC (And.intro hr hb2)
  have HK2 : Hid (∀ W, Below W2.heap.size W2 W → W.cell? ⟨Kb, 0, none⟩ = some (.int .i64 la) ∧ W.cell? ⟨Kb, 1, none⟩ = some (.slice pa pn pc) ∧ W.cell? ⟨Kb, 2, none⟩ = some (.slice ca cn cc)) := fun W hW => by
    have h3 : W2.heap[Kb]? = _ := (hb2.block _ (blk_lt HB.out.2)).trans HB.out.2
    have h4 : W.heap[Kb]? = _ := (hW.block _ (blk_lt h3)).trans h3
    refine ⟨?_, ?_, ?_⟩ <;> simp [World.cell?, h4]
  have HBW : Hid (∀ W, Below W2.heap.size W2 W → Below W1.heap.size W1 W ∧ Below w.heap.size w W) := fun W hW => by
    have h3 := hb2.trans (hW.mono hb2.size)
    have h4 := HB.out.1
    exact ⟨h3, h4.trans (h3.mono h4.size)⟩
  clear hr hb2 HPf2 k1 k2
  cases r with
  | false =>
    go_wp2
    go_ret
    exact FitPost.no (fun h => by have := HR.out.1.2 h.2.1; cases this) (HBW.out _ (Below.refl _ _)).2
  | true =>
    have HPk := hidC (HR.out.1.1 rfl)
    clear HR
    obtain ⟨k0, k1, k2⟩ := HK2.out W2 (Below.refl _ _)
    go_wp2_with fail
    clear k0 k1 k2
    go_loopw [3, 5, 25] (fun x _ y wr => ∃ (i : Nat) (v : Value), i ≤ pn ∧ y = .int .i64 (i : Int) ∧ x = v ∧ Hid (wr.ownsRow W2.heap.size 3 1 v i (((pins.take i).map Prod.fst).map ei) ∧ Below W2.heap.size W2 wr)) (fun _ _ y _ => pn - (intOf y).toNat)
    case atStart => exact ⟨0, _, Nat.zero_le _, rfl, rfl, World.ownsRow_nil _ _ _ _, Below.refl _ _⟩
    case round =>
      obtain ⟨i, v, hi, rfl, hxv, HI⟩ := hrel
      replace hxv := hxv.symm
      subst hxv
      by_cases hlt : i < pn
      · have hil : i < pins.length := by have := HPn.out; omega
        obtain ⟨b, off, hpa, c0, c1⟩ := (HS.out wr (HBW.out wr HI.out.2).1).pin (i := i) hil
        simp only at hpa c0 c1
        subst hpa
        have HP : Hid (((pins.take (i + 1)).map Prod.fst).map ei = ((pins.take i).map Prod.fst).map ei ++ [.int .i64 pins[i].1]) := by
          show _ = _
          rw [List.take_succ_eq_append_getElem hil, List.map_append, List.map_append]
          rfl
        generalize pins[i].1 = p1 at *
        generalize pins[i].2 = p2 at *
        obtain ⟨U, hU⟩ : ∃ U, U = wr.alloc (.cells #[.int .i64 p1, .int .i64 p2] 95) := ⟨_, rfl⟩
        have HUr : Hid (U.ownsRow W2.heap.size 3 1 v i (((pins.take i).map Prod.fst).map ei) ∧ Below W2.heap.size W2 U) := by
          rw [hU]
          exact ⟨World.ownsRow.alloc HI.out.1 _, HI.out.2.alloc HI.out.2.size _⟩
        have HApp : Hid (∀ ty, ∃ v' w', (Builtin.append_ #[111, 111] ty #[v, .slice (some ⟨wr.heap.size + 1, 0, none⟩) 1 1]).run Tryz.prog (U.alloc (.cells #[.int .i64 p1] 3)) = .ok v' w' ∧ (w'.ownsRow W2.heap.size 3 1 v' (i + 1) (((pins.take (i + 1)).map Prod.fst).map ei) ∧ Below W2.heap.size W2 w')) := fun ty => by
          obtain ⟨v', w', q1, q2, q3⟩ := append_i ty W2.heap.size v i _ HUr.out.1 p1 (by omega) HUr.out.2.size
          have hUz : U.heap.size = wr.heap.size + 1 := by rw [hU]; simp
          rw [hUz] at q1
          refine ⟨v', w', q1, by rw [HP.out]; exact q2, ?_⟩
          exact rowGrown (World.ownsRow.alloc HUr.out.1 _) q3 (HUr.out.2.alloc HUr.out.2.size _) (Nat.le_refl _) (by have := HUr.out.2.size; simp; omega)
        clear HP HI HUr
        subst hU
        go_wp2_with (at_builtin; refine wpL_appI rfl _ _ 111 rfl v (.slice (some ⟨wr.heap.size + 1, 0, none⟩) 1 1) rfl rfl (post := fun v' w' => w'.ownsRow W2.heap.size 3 1 v' (i + 1) (((pins.take (i + 1)).map Prod.fst).map ei) ∧ Below W2.heap.size W2 w') HApp.out ?_; rintro v' w3 hown; replace hown := hidC hown)
        exact ⟨⟨i + 1, v', by omega, by go_num, rfl, hown.out⟩, by simp [intOf]; omega⟩
      · have hie : i = pn := by omega
        subst hie
        obtain ⟨da, dc, rfl, hia, _⟩ := IAt.ofRow (d := pins.map Prod.fst) (w := wr) (b := W2.heap.size) (v := v) (by
          have h3 := HI.out.1
          rw [HPn.out, List.take_length] at h3
          rw [List.length_map]
          exact h3)
        have HD : Hid (IAt wr da (pins.map Prod.fst) ∧ Below W2.heap.size W2 wr ∧ (pins.map Prod.fst).Pairwise (· < ·)) := ⟨hia, HI.out.2, PnOK.rise HPk.out⟩
        obtain ⟨_, _, k2⟩ := HK2.out wr HI.out.2
        clear hia HI
        rw [List.length_map, ← HPn.out]
        go_wp2_with fail
        clear k2
        generalize wr = W3 at *
        go_loopw [6, 8, 38] (fun x _ y wr => ∃ (j : Nat) (v : Value), j ≤ cn ∧ y = .int .i64 (j : Int) ∧ x = v ∧ Hid (OwnK wr W3.heap.size v ((chs.take j).map Ch.k) ∧ Below W3.heap.size W3 wr ∧ ∀ c ∈ chs.take j, ChOK la (pins.map Prod.fst) c.l)) (fun _ _ y _ => cn - (intOf y).toNat)
        case atStart => exact ⟨0, _, Nat.zero_le _, rfl, rfl, OwnK.nil _ _, Below.refl _ _, by simp⟩
        case round =>
          obtain ⟨j, v, hj, rfl, hxv, HI⟩ := hrel
          replace hxv := hxv.symm
          subst hxv
          have HB3 : Hid (∀ W, Below wr.heap.size wr W → Below W2.heap.size W2 W ∧ Below W3.heap.size W3 W ∧ Below W1.heap.size W1 W ∧ Below w.heap.size w W) := fun W hW => by
            have h3 := HI.out.2.1.trans (hW.mono HI.out.2.1.size)
            have h4 := HD.out.2.1.trans (h3.mono HD.out.2.1.size)
            have h5 := HBW.out W h4
            exact ⟨h4, h3, h5.1, h5.2⟩
          by_cases hlt : j < cn
          · have hjl : j < chs.length := by have := HCn.out; omega
            obtain ⟨b, off, hca, c0, c1, c2⟩ := (HS.out wr (HB3.out wr (Below.refl _ _)).2.2.1).chain (i := j) hjl
            simp only at hca c0 c1 c2
            subst hca
            have hv := HO.out.nv _ (List.getElem_mem hjl)
            have HCF : Hid (∀ o, Calls Tryz.prog 64 #[.slice chs[j].a chs[j].l.length chs[j].c, .int .i64 la, .slice da i dc] (wr.alloc o) fun e w' => FitPost (wr.alloc o) (ChOK la (pins.map Prod.fst) chs[j].l) e w') := fun o => by
              have hbo : Below wr.heap.size wr (wr.alloc o) := (Below.refl _ _).alloc (Nat.le_refl _) _
              have hbb := HB3.out _ hbo
              have hsn := HS.out _ hbb.2.2.1
              refine chainFits_any N (wr.alloc o) chs[j].a chs[j].l.length chs[j].c chs[j].l (hsn.vs _ (List.getElem_mem hjl)) (by have := hbb.2.2.2.size; omega) rfl hv la ⟨h1, h2⟩ da i dc (pins.map Prod.fst) (by rw [List.length_map]; exact HPn.out) (HD.out.1.below hbb.2.1) HD.out.2.2 (by omega)
            have HT : Hid ((chs.take (j + 1)).map Ch.k = (chs.take j).map Ch.k ++ [(chs[j].k.1, chs[j].k.2)] ∧ (∀ c ∈ chs.take (j + 1), c ∈ chs.take j ∨ c = chs[j]) ∧ chs[j] ∈ chs) := by
              rw [List.take_succ_eq_append_getElem hjl]
              refine ⟨by rw [List.map_append]; rfl, fun c hc => ?_, List.getElem_mem hjl⟩
              rcases List.mem_append.1 hc with h | h
              · exact .inl h
              · exact .inr (by simpa using h)
            have k0 : ∀ o, (wr.alloc o).cell? ⟨Kb, 0, none⟩ = some (.int .i64 la) := fun o => (HK2.out _ (HB3.out _ ((Below.refl wr.heap.size wr).alloc (Nat.le_refl _) o)).1).1
            generalize chs[j] = cj at *
            obtain ⟨⟨x1, x2⟩, sa, sc, sl⟩ := cj
            simp only at c0 c1 c2 HCF HT hv
            obtain ⟨sn, hsn⟩ : ∃ sn, sn = sl.length := ⟨_, rfl⟩
            rw [← hsn] at c2 HCF hv
            clear hsn
            go_wp2_with fail
            refine (HCF.out _).mono ?_
            rintro e W5 ⟨r, rfl, hr, hb5⟩
            have HR5 := hidC (And.intro hr hb5)
            have hbox : (wr.alloc (.cells #[.int .i64 x1, .int .i64 x2, .slice sa sn sc] 53)).heap[wr.heap.size]? = some (.cells #[.int .i64 x1, .int .i64 x2, .slice sa sn sc] 53 (0, 0)) := heap_alloc_new _ _ rfl
            have hbx5 : W5.heap[wr.heap.size]? = some (.cells #[.int .i64 x1, .int .i64 x2, .slice sa sn sc] 53 (0, 0)) := (hb5.block _ (blk_lt hbox)).trans hbox
            have q0 : W5.cell? ⟨wr.heap.size, 0, none⟩ = some (.int .i64 x1) := by simp [World.cell?, hbx5]
            have q1 : W5.cell? ⟨wr.heap.size, 1, none⟩ = some (.int .i64 x2) := by simp [World.cell?, hbx5]
            have HB5 : Hid (Below wr.heap.size wr W5) := ((Below.refl wr.heap.size wr).alloc (Nat.le_refl _) _).trans (hb5.mono (by simp))
            clear hr hb5 HCF c0 c1 c2 k0 hbox hbx5
            cases r with
            | false =>
              have HX : Hid (FitPost w (CanR ⟨la, pa, pc, pins, some ⟨b, off, none⟩, cc, chs⟩) (.returned (.bool false)) W5) := FitPost.no (fun h => by
                have h6 := h.2.2.1 _ HT.out.2.2
                have h7 := HR5.out.1.2 h6
                cases h7) (HB3.out _ HB5.out).2.2.2
              go_wp2
              go_ret
              exact HX.out
            | true =>
              have HOk := hidC (HR5.out.1.1 rfl)
              clear HR5
              have HApp : Hid (∀ ty, ∃ v' w', (Builtin.append_ #[54, 54] ty #[v, .slice (some ⟨W5.heap.size, 0, none⟩) 1 1]).run Tryz.prog (W5.alloc (.cells #[.int .i64 x1, .int .i64 x2] 47)) = .ok v' w' ∧ (OwnK w' W3.heap.size v' ((chs.take (j + 1)).map Ch.k) ∧ Below W3.heap.size W3 w' ∧ ∀ c ∈ chs.take (j + 1), ChOK la (pins.map Prod.fst) c.l)) := fun ty => by
                have hA : OwnK (W5.alloc (.cells #[.int .i64 x1, .int .i64 x2] 47)) W3.heap.size v ((chs.take j).map Ch.k) := (HI.out.1.kept HB5.out).alloc _
                have hlen : ((chs.take j).map Ch.k).length ≤ 100000 := by simp; omega
                have hsz := (HB3.out _ HB5.out).2.1.size
                obtain ⟨v', w', hr5, ho5, hg5, _⟩ := run_append_keys ty W3.heap.size v _ hA (some ⟨W5.heap.size, 0, none⟩) 1 1 [(x1, x2)] rfl (key_src W5 _ x1 x2 rfl) (by simp) (by simp at hlen ⊢; omega) (by simp; omega)
                refine ⟨v', w', hr5, by rw [HT.out.1]; exact ho5, ?_, fun c hc => ?_⟩
                · exact rowGrown hA hg5 ((HB3.out _ HB5.out).2.1.alloc hsz _) (Nat.le_refl _) (by simp; omega)
                · rcases HT.out.2.1 c hc with h6 | h6
                  · exact HI.out.2.2 c h6
                  · rw [h6]; exact HOk.out
              clear HI HOk HT HB5
              go_wp2_with (at_builtin; refine wpL_appI rfl _ _ 54 rfl v (.slice (some ⟨W5.heap.size, 0, none⟩) 1 1) rfl rfl (post := fun v' w' => OwnK w' W3.heap.size v' ((chs.take (j + 1)).map Ch.k) ∧ Below W3.heap.size W3 w' ∧ ∀ c ∈ chs.take (j + 1), ChOK la (pins.map Prod.fst) c.l) HApp.out ?_; rintro v' w3 hown; replace hown := hidC hown)
              exact ⟨⟨j + 1, v', by omega, by go_num, rfl, hown.out⟩, by simp [intOf]; omega⟩
          · have hje : j = cn := by omega
            subst hje
            have HE : Hid (OwnK wr W3.heap.size v (chs.map Ch.k) ∧ ∀ c ∈ chs, ChOK la (pins.map Prod.fst) c.l) := by
              have h3 := HI.out
              rw [HCn.out, List.take_length] at h3
              exact ⟨h3.1, h3.2.2⟩
            obtain ⟨ko, kc, rfl, hka, _, _⟩ := HE.out.1.slice
            have HRi := hidC (rises_any wr ko kc (chs.map Ch.k).length (chs.map Ch.k) rfl hka (by rw [List.length_map, ← HCn.out]; omega))
            have HB6 := hidC (HB3.out wr (Below.refl _ _)).2.2.2
            obtain ⟨kn, hkn⟩ : ∃ kn, kn = (chs.map Ch.k).length := ⟨_, rfl⟩
            obtain ⟨rb, hrb⟩ : ∃ rb, rb = decide (Rise (chs.map Ch.k)) := ⟨_, rfl⟩
            have HRb := hidC hrb
            have HE2 := hidC HE.out.2
            rw [← hkn, ← hrb] at HRi
            rw [← hkn]
            clear HI hka hkn hrb HE
            go_wp2_with fail
            refine HRi.out.mono ?_
            rintro e W6 ⟨rfl, q, os, rfl⟩
            have HX : Hid (FitPost w (CanR ⟨la, pa, pc, pins, ca, cc, chs⟩) (.returned (.bool rb)) (grow (wr.drewN q) os)) := by
              refine ⟨_, rfl, ?_, ?_⟩
              · rw [HRb.out, decide_eq_true_iff]
                exact ⟨fun h => ⟨⟨h1, h2⟩, HPk.out, HE2.out, h⟩, fun h => h.2.2.2⟩
              · have hgr : Grew wr (grow (wr.drewN q) os) := ⟨q, os, rfl⟩
                have hg : Below wr.heap.size wr (grow (wr.drewN q) os) := hgr.below
                exact HB6.out.trans (hg.mono HB6.out.size)
            clear HRi HRb HE2
            go_wp2
            go_ret
            exact HX.out
end Go.Proofs.YtibdogniiglcjaaGreat
