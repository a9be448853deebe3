import Derived.Test.YtibdogniiglcjaaGreatBkRef2
import Derived.Test.YtibdogniiglcjaaGreatBkFit3
import Derived.Test.YtibdogniiglcjaaGreatJKRefSet
import Derived.Deep.RegionHeld3
/-
  The document's Restorable.
-/
namespace Go.Proofs.YtibdogniiglcjaaGreat
open Go.RowKit Go.Sort

set_option maxRecDepth 100000 in
set_option maxHeartbeats 4000000 in
theorem restorable_any (N : Nat) (w : World) (s : Sn) (h : SnAt N w s) (hN : N ≤ w.heap.size) (ho : SnOK s) :
    Calls Tryz.prog 45 #[snv s] w fun e w' => FitPost w (CanR s) e w' := by
  obtain ⟨pn, hpn⟩ : ∃ pn, pn = s.pins.length := ⟨_, rfl⟩
  obtain ⟨cn, hcn⟩ : ∃ cn, cn = s.chs.length := ⟨_, rfl⟩
  obtain ⟨pa, hpa⟩ : ∃ pa, pa = s.pa := ⟨_, rfl⟩
  obtain ⟨ca, hca⟩ : ∃ ca, ca = s.ca := ⟨_, rfl⟩
  obtain ⟨pc, hpc⟩ : ∃ pc, pc = s.pc := ⟨_, rfl⟩
  obtain ⟨cc, hcc⟩ : ∃ cc, cc = s.cc := ⟨_, rfl⟩
  obtain ⟨la, hla⟩ : ∃ la, la = s.la := ⟨_, rfl⟩
  have hnp := ho.np
  have hnc := ho.nc
  have hsv : snv s = .agg #[.int .i64 la, .slice pa pn pc, .slice ca cn cc] := by rw [hla, hpa, hpn, hpc, hca, hcn, hcc]; rfl
  rw [← hpn] at hnp
  rw [← hcn] at hnc
  obtain ⟨W1, hW1⟩ : ∃ W1, W1 = w.alloc (.cells #[.int .i64 la, .slice pa pn pc, .slice ca cn cc] 25) := ⟨_, rfl⟩
  obtain ⟨Kb, hKb⟩ : ∃ Kb, Kb = w.heap.size := ⟨_, rfl⟩
  have HB : Hid (Below w.heap.size w W1 ∧ W1.heap[Kb]? = some (.cells #[.int .i64 la, .slice pa pn pc, .slice ca cn cc] 25 (0, 0))) := by
    rw [hW1, hKb]
    exact ⟨(Below.refl _ _).alloc (Nat.le_refl _) _, heap_alloc_new _ _ rfl⟩
  have HS : Hid (∀ W, Below W1.heap.size W1 W → SnAt N W s) := fun W hW => by
    have hb := HB.out.1
    exact (h.below (hb.mono hN)).below (hW.mono (by have := hb.size; omega))
  have HK : Hid (∀ W, Below W1.heap.size W1 W → W.cell? ⟨Kb, 0, none⟩ = some (.int .i64 la) ∧ W.cell? ⟨Kb, 1, none⟩ = some (.slice pa pn pc) ∧ W.cell? ⟨Kb, 2, none⟩ = some (.slice ca cn cc)) := fun W hW => by
    have h4 : W.heap[Kb]? = _ := (hW.block _ (blk_lt HB.out.2)).trans HB.out.2
    refine ⟨?_, ?_, ?_⟩ <;> simp [World.cell?, h4]
  have HPi : Hid (Calls Tryz.prog 66 #[.agg #[.int .i64 la, .slice pa pn pc, .slice ca cn cc]] W1 fun e w' => FitPost W1 (PnOK la s.pins) e w') := by
    have h1 := rpins_any N W1 s (HS.out W1 (Below.refl _ _)) (by have := HB.out.1.size; omega) ho
    rw [hsv, ← hla] at h1
    exact h1
  have HCh : Hid (∀ W, Below W1.heap.size W1 W → ∀ c ∈ s.chs, Calls Tryz.prog 67 #[.agg #[.int .i64 la, .slice pa pn pc, .slice ca cn cc], .slice c.a c.l.length c.c] W fun e w' => FitPost W (ChOK la (s.pins.map Prod.fst) c.l) e w') := fun W hW c hc => by
    have h1 := rchain_any N W s (HS.out W hW) (by have := hW.size; have := HB.out.1.size; omega) ho c.a c.l.length c.c c.l ((HS.out W hW).vs c hc) rfl (ho.nv c hc)
    rw [hsv, ← hla] at h1
    exact h1
  have HE := hidC (And.intro hpn (And.intro hcn (And.intro hca hla)))
  have HBw : Hid (∀ W, Below W1.heap.size W1 W → Below w.heap.size w W) := fun W hW => HB.out.1.trans (hW.mono HB.out.1.size)
  have HNv := hidC ho.nv
  rw [hsv]
  clear h hpn hcn hpa hca hpc hcc hla ho hsv
  go_enter Tryz.func45, Tryz.ntmps45
  go_wp2_with fail
  rw [← hW1, ← hKb]
  clear hW1 hKb
  refine HPi.out.mono ?_
  rintro e W2 ⟨r, rfl, hr, hb2⟩
  have HB2 := hidC hb2
  obtain ⟨k0, k1, k2⟩ := HK.out W2 hb2
  clear hb2 HPi
  cases r with
  | false =>
    have HX : Hid (FitPost w (CanR s) (.returned (.bool false)) W2) := FitPost.no (fun h => by
      have h1 := h.2.1
      rw [← HE.out.2.2.2] at h1
      have := hr.2 h1; cases this) (HBw.out _ HB2.out)
    clear hr
    go_wp2
    go_ret
    exact HX.out
  | true =>
    have HPk := hidC (hr.1 rfl)
    clear hr
    by_cases h1 : la < 0
    · have h1b : decide (la < 0) = true := decide_eq_true h1
      have HX : Hid (FitPost w (CanR s) (.returned (.bool false)) W2) := FitPost.no (fun h => by
        have h3 := h.1
        rw [← HE.out.2.2.2] at h3
        omega) (HBw.out _ HB2.out)
      go_wp2
      go_ret
      exact HX.out
    have h1b : decide (la < 0) = false := decide_eq_false h1
    by_cases h2 : 1099511627776 < la
    · have h2b : decide (1099511627776 < la) = true := decide_eq_true h2
      have HX : Hid (FitPost w (CanR s) (.returned (.bool false)) W2) := FitPost.no (fun h => by
        have h3 := h.1
        rw [← HE.out.2.2.2] at h3
        omega) (HBw.out _ HB2.out)
      go_wp2
      go_ret
      exact HX.out
    have h2b : decide (1099511627776 < la) = false := decide_eq_false h2
    go_wp2_with fail
    clear k0 k1 k2
    go_loopw [3, 4, 5] (fun _ x y wr => ∃ (j : Nat) (v : Value), j ≤ cn ∧ y = .int .i64 (j : Int) ∧ x = v ∧ Hid (OwnK wr W2.heap.size v ((s.chs.take j).map Ch.k) ∧ Below W2.heap.size W2 wr ∧ ∀ c ∈ s.chs.take j, ChOK la (s.pins.map Prod.fst) c.l)) (fun _ _ y _ => cn - (intOf y).toNat)
    case atStart => exact ⟨0, _, Nat.zero_le _, rfl, rfl, OwnK.nil _ _, Below.refl _ _, by simp⟩
    case round =>
      obtain ⟨j, v, hj, rfl, hxv, HI⟩ := hrel
      replace hxv := hxv.symm
      subst hxv
      have HB3 : Hid (∀ W, Below W2.heap.size W2 W → Below W1.heap.size W1 W) := fun W hW => HB2.out.trans (hW.mono HB2.out.size)
      obtain ⟨k0, k1, k2⟩ := HK.out wr (HB3.out _ HI.out.2.1)
      by_cases hlt : j < cn
      · have hjl : j < s.chs.length := by have := HE.out.2.1; omega
        obtain ⟨b, off, hca, c0, c1, c2⟩ := (HS.out wr (HB3.out wr HI.out.2.1)).chain (i := j) hjl
        rw [← HE.out.2.2.1] at hca
        subst hca
        have HT : Hid ((s.chs.take (j + 1)).map Ch.k = (s.chs.take j).map Ch.k ++ [(s.chs[j].k.1, s.chs[j].k.2)] ∧ (∀ c ∈ s.chs.take (j + 1), c ∈ s.chs.take j ∨ c = s.chs[j]) ∧ s.chs[j] ∈ s.chs) := by
          rw [List.take_succ_eq_append_getElem hjl]
          refine ⟨by rw [List.map_append]; rfl, fun c hc => ?_, List.getElem_mem hjl⟩
          rcases List.mem_append.1 hc with h | h
          · exact .inl h
          · exact .inr (by simpa using h)
        have HCj : Hid (∀ W, Below W1.heap.size W1 W → Calls Tryz.prog 67 #[.agg #[.int .i64 la, .slice pa pn pc, .slice (some ⟨b, off, none⟩) cn cc], .slice s.chs[j].a s.chs[j].l.length s.chs[j].c] W fun e w' => FitPost W (ChOK la (s.pins.map Prod.fst) s.chs[j].l) e w') := fun W hW => HCh.out W hW _ (List.getElem_mem hjl)
        have HCl : Hid (∀ W, Below W1.heap.size W1 W → W.cell? ⟨b, off + j * 3 + 2, none⟩ = some (.slice s.chs[j].a s.chs[j].l.length s.chs[j].c)) := fun W hW => by
          obtain ⟨b', off', he, _, _, q2⟩ := (HS.out W hW).chain (i := j) hjl
          rw [← HE.out.2.2.1] at he
          cases he
          exact q2
        generalize s.chs[j] = cj at *
        obtain ⟨⟨x1, x2⟩, sa, sc, sl⟩ := cj
        simp only at c0 c1 c2 HCj HT HCl
        obtain ⟨sn, hsn⟩ : ∃ sn, sn = sl.length := ⟨_, rfl⟩
        rw [← hsn] at c2 HCj HCl
        clear hsn
        have HApp : Hid (∀ ty, ∃ v' w', (Builtin.append_ #[54, 54] ty #[v, .slice (some ⟨wr.heap.size, 0, none⟩) 1 1]).run Tryz.prog (wr.alloc (.cells #[.int .i64 x1, .int .i64 x2] 47)) = .ok v' w' ∧ ((∃ a n c, v' = .slice a n c) ∧ OwnK w' W2.heap.size v' ((s.chs.take (j + 1)).map Ch.k) ∧ Below W2.heap.size W2 w')) := fun ty => by
          have hA : OwnK (wr.alloc (.cells #[.int .i64 x1, .int .i64 x2] 47)) W2.heap.size v ((s.chs.take j).map Ch.k) := HI.out.1.alloc _
          have hlen : ((s.chs.take j).map Ch.k).length ≤ 100000 := by simp; omega
          have hsz := HI.out.2.1.size
          obtain ⟨v', w', hr5, ho5, hg5, _⟩ := run_append_keys ty W2.heap.size v _ hA (some ⟨wr.heap.size, 0, none⟩) 1 1 [(x1, x2)] rfl (key_src wr _ x1 x2 rfl) (by simp) (by simp at hlen ⊢; omega) (by simp; omega)
          refine ⟨v', w', hr5, ?_, by rw [HT.out.1]; exact ho5, rowGrown hA hg5 (HI.out.2.1.alloc hsz _) (Nat.le_refl _) (by simp; omega)⟩
          obtain ⟨a, c, e, _⟩ := ho5.slice
          exact ⟨a, _, c, e⟩
        have HCc := hidC HI.out.2.2
        clear HI
        go_wp2_with (at_builtin; refine wpL_appI rfl _ _ 54 rfl v (.slice (some ⟨wr.heap.size, 0, none⟩) 1 1) rfl rfl (post := fun v' w' => (∃ a n c, v' = .slice a n c) ∧ OwnK w' W2.heap.size v' ((s.chs.take (j + 1)).map Ch.k) ∧ Below W2.heap.size W2 w') HApp.out ?_; rintro v' w3 ⟨⟨a3, n3, c3, rfl⟩, hown⟩; have HOw := hidC hown; clear hown HApp)
        have hb3 := HB3.out w3 HOw.out.2
        have hb3d : Below W1.heap.size W1 w3.drew := ⟨hb3.os, hb3.tape, hb3.output, hb3.size, hb3.block⟩
        have HC : Hid (Calls Tryz.prog 67 #[.agg #[.int .i64 la, .slice pa pn pc, .slice (some ⟨b, off, none⟩) cn cc], .slice sa sn sc] w3.drew fun e w' => ∃ r, e = .returned (.bool r) ∧ (r = true ↔ ChOK la (s.pins.map Prod.fst) sl) ∧ Below w3.drew.heap.size w3.drew w') := HCj.out w3.drew hb3d
        obtain ⟨m0, m1, m2⟩ := HK.out w3 hb3
        have m3 := HCl.out w3 hb3
        have HKl : Hid (∀ W, Below w3.drew.heap.size w3.drew W → W.cell? ⟨Kb, 0, none⟩ = some (.int .i64 la) ∧ W.cell? ⟨Kb, 1, none⟩ = some (.slice pa pn pc) ∧ W.cell? ⟨Kb, 2, none⟩ = some (.slice (some ⟨b, off, none⟩) cn cc) ∧ W.cell? ⟨b, off + j * 3 + 2, none⟩ = some (.slice sa sn sc)) := fun W hW => by
          have h3 := hb3d.trans (hW.mono hb3d.size)
          have h4 := HK.out W h3
          exact ⟨h4.1, h4.2.1, h4.2.2, HCl.out W h3⟩
        clear k0 k1 k2 c0 c1 c2 hb3 hb3d HCj HCl
        go_region_held3 (fun w' => w'.cell? ⟨Kb, 0, none⟩ = some (.int .i64 la) ∧ w'.cell? ⟨Kb, 1, none⟩ = some (.slice pa pn pc) ∧ w'.cell? ⟨Kb, 2, none⟩ = some (.slice (some ⟨b, off, none⟩) cn cc) ∧ w'.cell? ⟨b, off + j * 3 + 2, none⟩ = some (.slice sa sn sc)) (first | with_reducible exact HKl.out _ HQ6.out | go_keep) (first | (go_at_call 67; with_reducible refine HC.out.mono ?_; rintro e w6 ⟨r, rfl, hr6, hb6⟩; have HR6 := hidC hr6; have HQ6 := hidC hb6; clear hr6 hb6))
        have HBn : Hid (Below W2.heap.size W2 w6) := by
          have h3 := HOw.out.2
          have h4 : Below W2.heap.size W2 w3.drew := ⟨h3.os, h3.tape, h3.output, h3.size, h3.block⟩
          exact h4.trans (HQ6.out.mono h4.size)
        clear m0 m1 m2 m3 HC
        cases r with
        | false =>
          have HX : Hid (FitPost w (CanR s) (.returned (.bool false)) w6) := FitPost.no (fun h => by
            have h3 := h.2.2.1 _ HT.out.2.2
            rw [← HE.out.2.2.2] at h3
            have h4 := HR6.out.2 h3
            cases h4) (HBw.out _ (HB3.out _ HBn.out))
          go_wp2
          go_ret
          exact HX.out
        | true =>
          have HN6 : Hid (OwnK w6 W2.heap.size (.slice a3 n3 c3) ((s.chs.take (j + 1)).map Ch.k) ∧ Below W2.heap.size W2 w6 ∧ ∀ c ∈ s.chs.take (j + 1), ChOK la (s.pins.map Prod.fst) c.l) := by
            have h4 : OwnK w3.drew W2.heap.size (.slice a3 n3 c3) ((s.chs.take (j + 1)).map Ch.k) := HOw.out.1
            refine ⟨h4.kept HQ6.out, HBn.out, fun c hc => ?_⟩
            rcases HT.out.2.1 c hc with h6 | h6
            · exact HCc.out c h6
            · rw [h6]; exact HR6.out.1 rfl
          clear HR6 HT HOw HBn HCc HQ6
          go_wp2
          exact ⟨⟨j + 1, _, by omega, by go_num, rfl, HN6.out⟩, by simp [intOf]; omega⟩
      · have hje : j = cn := by omega
        subst hje
        have HE2 : Hid (OwnK wr W2.heap.size v (s.chs.map Ch.k) ∧ ∀ c ∈ s.chs, ChOK la (s.pins.map Prod.fst) c.l) := by
          have h3 := HI.out
          rw [HE.out.2.1, List.take_length] at h3
          exact ⟨h3.1, h3.2.2⟩
        have HB6 := hidC (HBw.out _ (HB3.out _ HI.out.2.1))
        obtain ⟨ko, kc, rfl, hka, _, _⟩ := HE2.out.1.slice
        have HRi := hidC (refRises_any wr ko kc (s.chs.map Ch.k).length (s.chs.map Ch.k) rfl hka (by rw [List.length_map, ← HE.out.2.1]; omega))
        obtain ⟨kn, hkn⟩ : ∃ kn, kn = (s.chs.map Ch.k).length := ⟨_, rfl⟩
        obtain ⟨rb, hrb⟩ : ∃ rb, rb = decide (Rise (s.chs.map Ch.k)) := ⟨_, rfl⟩
        have HRb := hidC hrb
        have HE3 := hidC HE2.out.2
        rw [← hkn, ← hrb] at HRi
        rw [← hkn]
        clear HI hka hkn hrb HE2
        go_wp2_with fail
        refine HRi.out.mono ?_
        rintro e W6 ⟨rfl, q, os, rfl⟩
        have HX : Hid (FitPost w (CanR s) (.returned (.bool rb)) (grow (wr.drewN q) os)) := by
          refine ⟨_, rfl, ?_, ?_⟩
          · rw [HRb.out, decide_eq_true_iff]
            have hl := HE.out.2.2.2
            refine ⟨fun h => ⟨by rw [← hl]; omega, by rw [← hl]; exact HPk.out, by rw [← hl]; exact HE3.out, h⟩, fun h => h.2.2.2⟩
          · have hgr : Grew wr (grow (wr.drewN q) os) := ⟨q, os, rfl⟩
            have hg : Below wr.heap.size wr (grow (wr.drewN q) os) := hgr.below
            exact HB6.out.trans (hg.mono HB6.out.size)
        clear HRi HRb HE3
        go_wp2
        go_ret
        exact HX.out
end Go.Proofs.YtibdogniiglcjaaGreat
