import Derived.Test.YtbcmmeajglilbaaGreatKKSort
import Derived.Test.YtbcmmeajglilbaaGreatKSpMath
import Derived.Stop.RegionWithIn
import Derived.Test.YtbcmmeajglilbaaGreatKCIter
import Derived.Test.YtbcmmeajglilbaaGreatKSpBel
import Derived.Laws.CopyRow
import Derived.Laws.Cover3
/-
  told (of a chain), Chain.
-/
namespace Go.Proofs.YtbcmmeajglilbaaGreat
open Go.RowKit Go.Sort Go.Shelf

attribute [local go_sem] Oper.semAt_some

abbrev TV : TypeId := 71
abbrev TVs : TypeId := 81
theorem elV : El TVs TV (.agg #[.int .i64 0, .int .i64 0, .bool false, .bool false, .int .i64 0]) 5 40 := ⟨Tryz.underlying81, by kernel_rfl, rfl, by decide, by decide⟩
/-- the cells of versions, as they are told -/
def c1v (v : Vr) : List Value := [.int .i64 v.ba, .int .i64 v.ix, .bool v.fl, .bool v.ci, .int .i64 v.cv]
def ctv (l : List Vr) : List Value := l.flatMap c1v
theorem ctv_snoc (l : List Vr) (v : Vr) : ctv (l ++ [v]) = ctv l ++ c1v v := by simp [ctv]
theorem make_vers (c : Nat) (hc : c ≤ 65536) (u : World) : (Instr.makeSlice TVs (.int .i64 0) (.int .i64 (c : Int))).run Tryz.prog u = .ok (.slice (some ⟨u.heap.size, 0, none⟩) 0 c) (u.alloc (.cells (madeCells #[.int .i64 0, .int .i64 0, .bool false, .bool false, .int .i64 0] (c * 5)) TV)) := by
  obtain ⟨i0, hi, hz0, hz1, hz2⟩ := info_parts elV.i
  have h := run_make (P := Tryz.prog) u TVs TV i0 (.agg #[.int .i64 0, .int .i64 0, .bool false, .bool false, .int .i64 0]) Tryz.underlying81 hi hz0 .i64 .i64 (0 : Int) (c : Int) (by omega) (by omega) (by rw [hz2]; omega) (by omega)
  rw [hz1, Int.toNat_natCast] at h
  exact h
theorem getD_of {α : Type} {l : List α} {i : Nat} {d : α} (h : i < l.length) : l.getD i d = l[i] := by rw [List.getD_eq_getElem?_getD, List.getElem?_eq_getElem h]; rfl
/-- the version at a place -/
def yv (ys : List Vr) (i : Nat) : Vr := ys.getD (cl ys.length i) v0
theorem yv_b (ys : List Vr) (i : Nat) (h : 0 < ys.length) : nd (ys.map Vr.b) (cl ys.length i) = (yv ys i).b := by
  have h1 := cl_lt (i := i) h
  unfold nd yv
  rw [getD_of (by simpa using h1), getD_of h1, List.getElem_map]
theorem yv_mem (ys : List Vr) (i : Nat) (h : 0 < ys.length) : yv ys i ∈ ys := by
  have h1 := cl_lt (i := i) h
  unfold yv
  rw [getD_of h1]
  exact List.getElem_mem _
theorem yv_dn (ys : List Vr) : (dn ys.length ys.length).map (yv ys) = ys.reverse := by
  refine List.ext_getElem (by simp [dn]) (fun i h1 h2 => ?_)
  have hi : i < ys.length := by simpa using h2
  simp only [List.getElem_map, dn, List.getElem_range, List.getElem_reverse]
  unfold yv
  rw [cl_of (by omega), getD_of (by omega)]
/-- the list that grows -/
structure TG (w : World) (Bl Bs : Nat) (xs : List Vr) (W : World) (v : Value) : Prop where
  bx : Boxed W Bl TVs v
  ow : W.ownsRow w.heap.size TV 5 v xs.length (ctv xs)
  bel : Below w.heap.size w W
  nb : ∀ k, v.ownBlock = some k → k ≠ Bs ∧ k ≠ Bl
  lt : Bs < W.heap.size
theorem TG.own {w : World} {Bl Bs B : Nat} {β : Type} (f : β → List Vr) (hB : w.heap.size ≤ B) : OwnFrom B (fun (s : β) W => ∃ v, TG w Bl Bs (f s) W v) := fun _ X Y row ⟨v, h⟩ hg hr =>
  ⟨v, boxed_own Bl TVs (fun _ : Unit => v) () X Y row h.bx hg (fun r e => (hr r e).2), rowOwn h.ow hg (fun r e => (hr r e).2), h.bel.grown hg h.bel.size (fun k e => Nat.le_trans hB (hr k e).1), h.nb, Nat.lt_of_lt_of_le h.lt hg.size⟩
theorem row_slice {W : World} {b : Nat} {T : TypeId} {sz n : Nat} {v : Value} {xs : List Value} (h : W.ownsRow b T sz v n xs) : ∃ a0 c0, v = .slice a0 n c0 := by
  obtain ⟨_, ⟨rfl, rfl⟩ | ⟨g, cap, cur, rfl, _⟩⟩ := h
  · exact ⟨_, _, rfl⟩
  · exact ⟨_, _, rfl⟩
theorem keeps_below2 {W W' : World} (h : Below W.heap.size W W') : KeepsOthers W W' := ⟨h.size, fun k _ hk _ => (h.block k (blk_lt hk)).trans hk⟩
theorem stepIn_app {F : Fence} {n : Nat} {w : World} {ops : Array Oper} {o : Oper} {a : Act} {K' : Act → World → Prop} {Q : Exit → Act → World → Prop} {E : Prop} (hgd : o.guard = none) (s x : Operand) (TS : TypeId)
    (ho : o.op = .call { callee := .builtin .append, args := #[s, x], argTypes := #[TS, TS] }) (v u : Value) (hs : a.eval s = v) (hx : a.eval x = u) {post : Value → World → Prop}
    (hr : ∀ ty, ∃ v' w', (Builtin.append_ #[TS, TS] ty #[v, u]).run Tryz.prog w = .ok v' w' ∧ post v' w') (h : ∀ v' w', post v' w' → K' (a.put o.dst v') w') :
    if Region.wanted o (yielded ops a.tmps) = true then Oper.wpIn F n Tryz.prog o a w K' Q else E := by
  have hw : Region.wanted o (yielded ops a.tmps) = true := by simp [Region.wanted, hgd]
  rw [if_pos hw]
  obtain ⟨v', w', hr, h2⟩ := hr o.type
  unfold Oper.wpIn
  refine ⟨?_, ?_⟩
  · simp [Oper.about, ho, resolve, Target.leads, Sem.run_pure]
  · rw [Oper.semAt_plain F _ _ (by rw [ho]; intro c hc'; cases hc')]
    simp [execOp, ho, resolve, invoke, builtin, hs, hx, hr, Result.andThen]
    exact h v' w' h2
/-- one more -/
theorem TG.app {w W W2 : World} {Bl Bs g n : Nat} {xs : List Vr} {a0 : Option Addr} {c0 : Nat} (h : TG w Bl Bs xs W (.slice a0 n c0)) (hb : Below W.heap.size W W2) (x : Vr) (hl : xs.length + 1 ≤ 1000000) (hg : g < w.heap.size) (hBl : w.heap.size ≤ Bl ∧ Bl < Bs) :
    ∀ ty, ∃ v' W5, (Builtin.append_ #[TVs, TVs] ty #[.slice a0 n c0, .slice (some ⟨W2.heap.size, 0, none⟩) 1 1]).run Tryz.prog (W2.alloc (.cells #[.int .i64 x.ba, .int .i64 x.ix, .bool x.fl, .bool x.ci, .int .i64 x.cv] TV)) = .ok v' W5 ∧ (∃ a' n' c', v' = .slice a' n' c') ∧ (W5.cell? ⟨Bl, 0, none⟩ = some (.slice a0 n c0) ∧ W5.frozen? ⟨Bl, 0, none⟩ = false) ∧ KeepsOthers W W5 ∧ KBG Bs g W (W5.setCell ⟨Bl, 0, none⟩ v') ∧ TG w Bl Bs (xs ++ [x]) (W5.setCell ⟨Bl, 0, none⟩ v') v' := by
  intro ty
  obtain ⟨o, ho⟩ : ∃ o, o = Obj.cells #[.int .i64 x.ba, .int .i64 x.ix, .bool x.fl, .bool x.ci, .int .i64 x.cv] TV := ⟨_, rfl⟩
  have hbA : Below W.heap.size W (W2.alloc o) := hb.alloc hb.size _
  have hA : (W2.alloc o).ownsRow w.heap.size TV 5 (.slice a0 n c0) xs.length (ctv xs) := ownsRow_same h.ow (fun k hk => hbA.block k (World.ownsRow.lt h.ow k hk).2)
  have hz := hbA.size
  obtain ⟨v', W5, hr5, ho5, hg5, hw5⟩ := run_append_E elV (w := W2.alloc o) ty w.heap.size _ _ _ hA ⟨W2.heap.size, 0, none⟩ 1 1 (c1v x) rfl (by rw [ho]; exact new_cells (news := c1v x)) (by simp [c1v, Value.oneCell']) (by omega) (by have := h.bel.size; omega)
  rw [← ho]
  have hbl : Bl < W.heap.size := h.bx.lt
  have hbA2 : Boxed (W2.alloc o) Bl TVs (.slice a0 n c0) := (hbA.block _ hbl).trans h.bx
  have hne : some Bl ≠ (Value.slice a0 n c0).ownBlock := fun e => (h.nb _ e.symm).2 rfl
  have hnes : some Bs ≠ (Value.slice a0 n c0).ownBlock := fun e => (h.nb _ e.symm).1 rfl
  have hneg : some g ≠ (Value.slice a0 n c0).ownBlock := fun e => by have := (World.ownsRow.lt h.ow _ e.symm).1; omega
  have hb5 : Boxed W5 Bl TVs (.slice a0 n c0) := hbA2.kept hg5 hne
  have hk5 : KBG Bs g W W5 := (KBG.below hbA h.lt (by have := h.bel.size; omega)).trans (KBG.grown hg5 (by have := h.lt; omega) (by have := h.bel.size; omega) hnes hneg)
  refine ⟨v', W5, hr5, ?_, ⟨hb5.cell, hb5.frozen⟩, ?_, hk5.trans ⟨by simp, heap_setCell_other _ _ _ _ (by simp; omega), heap_setCell_other _ _ _ _ (by simp; omega)⟩, hb5.set v', ?_, ?_, ?_, ?_⟩
  · obtain ⟨a', c', e⟩ := row_slice ho5
    exact ⟨_, _, _, e⟩
  · exact (keeps_below2 hbA).trans (keepsRow hA hg5)
  · rw [ctv_snoc, List.length_append, List.length_singleton]
    refine ownsRow_same ho5 (fun q hq => heap_setCell_other _ _ _ _ ?_)
    simp
    intro e
    subst e
    rcases hw5 with h1 | h1
    · rw [h1] at hq; exact hne hq.symm
    · rw [h1] at hq; cases hq; omega
  · have h1 : Below w.heap.size w W5 := (h.bel.trans (hbA.mono h.bel.size)).trans ((Below.refl _ _).grown hg5 (by have := h.bel.size; omega) (fun k e => (World.ownsRow.lt h.ow _ e).1))
    exact h1.setCell (p := ⟨Bl, 0, none⟩) hBl.1 _
  · intro k hk
    rcases hw5 with h1 | h1
    · rw [h1] at hk; exact h.nb k hk
    · rw [h1] at hk
      cases hk
      have := h.lt
      omega
  · have := h.lt; have := hg5.size; simp; omega
set_option maxRecDepth 100000 in
set_option maxHeartbeats 2000000 in
theorem toldC_any (w : World) (c g off cc : Nat) (ys : List Vr) (h : Line w c g off cc ys) :
    Calls Tryz.prog 62 #[ptr c] w fun e w' => ∃ v, e = .returned v ∧ w'.ownsRow w.heap.size TV 5 v ys.length (ctv ys.reverse) ∧ Below w.heap.size w w' := by
  have HL : Hid (∀ W, Below w.heap.size w W → Line W c g off cc ys) := fun W hW => h.kept hW
  have c0 := h.chc
  have c0a : ∀ o, (w.alloc o).cell? ⟨c, 0, none⟩ = some (.slice (some ⟨g, off, none⟩) ys.length cc) := fun o => Lib.cell?_alloc_some _ c0
  have c0b : ∀ o o', ((w.alloc o).alloc o').cell? ⟨c, 0, none⟩ = some (.slice (some ⟨g, off, none⟩) ys.length cc) := fun o o' => Lib.cell?_alloc_some _ (c0a o)
  have HZ : Hid (ys.length ≤ 65536 ∧ g < w.heap.size) := ⟨h.sz, h.lt (.inr (.inl rfl))⟩
  obtain ⟨n, hn⟩ : ∃ n, n = ys.length := ⟨_, rfl⟩
  have HN : Hid (n = ys.length) := hn
  rw [← hn] at c0 c0a c0b ⊢
  have hmk := fun u => make_vers n (by have := HZ.out.1; omega) u
  obtain ⟨W3, hW3⟩ : ∃ W3, W3 = (w.alloc (.cells (madeCells #[.int .i64 0, .int .i64 0, .bool false, .bool false, .int .i64 0] (n * 5)) TV)).alloc (.cells #[.slice (some ⟨w.heap.size, 0, none⟩) 0 n] TVs) := ⟨_, rfl⟩
  have HW3 : Hid (Below w.heap.size w W3 ∧ W3.heap.size = w.heap.size + 2 ∧ Boxed W3 (w.heap.size + 1) TVs (.slice (some ⟨w.heap.size, 0, none⟩) 0 n) ∧ W3.ownsRow w.heap.size TV 5 (.slice (some ⟨w.heap.size, 0, none⟩) 0 n) 0 []) := by
    rw [hW3]
    refine ⟨((Below.refl _ _).alloc (Nat.le_refl _) _).alloc (by simp) _, by simp, ?_, ?_⟩
    · have := Boxed.new (w.alloc (.cells (madeCells #[.int .i64 0, .int .i64 0, .bool false, .bool false, .int .i64 0] (n * 5)) TV)) TVs (.slice (some ⟨w.heap.size, 0, none⟩) 0 n)
      rwa [World.size_alloc] at this
    · have := World.ownsRow_made (e := TV) (size := 5) w (madeCells #[.int .i64 0, .int .i64 0, .bool false, .bool false, .int .i64 0] (n * 5)) n (base := w.heap.size) (Nat.le_refl _) (by have := HZ.out.1; have := HN.out; unfold maxLen; omega) (by simp [size_madeCells])
      exact World.ownsRow.alloc this _
  clear h hn
  refine (callsIn_wide (n := 10)).1 ?_
  refine callsIn_of_wp_marks Tryz.func62 rfl trivial ?_ rfl
  refine wpIn_wide.2 ?_
  simp only [Tryz.ntmps62, List.size_toArray, List.length_cons, List.length_nil, Nat.reduceAdd, Nat.reduceSub, Array.replicate_succ, Array.replicate_zero, List.push_toArray, List.append_toArray, List.nil_append, List.cons_append]
  go_wp2_with fail
  refine (backward_any _ (some ⟨g, off, none⟩) n cc).mono ?_
  rintro e W4 ⟨rfl, hW4⟩
  simp only [World.size_alloc] at hW4 ⊢
  rw [← hW3] at hW4
  have HG0 : Hid (TG w (w.heap.size + 1) (w.heap.size + 2) [] W4 (.slice (some ⟨w.heap.size, 0, none⟩) 0 n) ∧ BK W4 (w.heap.size + 2) g off cc (ys.map Vr.b) ∧ W4.heap.size = w.heap.size + 3) := by
    have h1 := HW3.out
    have hb4 : Below W3.heap.size W3 W4 := by rw [hW4]; exact (Below.refl _ _).alloc (Nat.le_refl _) _
    have hb : Below w.heap.size w W4 := h1.1.trans (hb4.mono h1.1.size)
    have hz : W4.heap.size = w.heap.size + 3 := by rw [hW4]; simp [h1.2.1]
    refine ⟨⟨(hb4.block _ (by omega)).trans h1.2.2.1, ownsRow_same h1.2.2.2 (fun k hk => by simp [Value.ownBlock] at hk; subst hk; exact hb4.block _ (by omega)), hb, fun k hk => by simp [Value.ownBlock] at hk; omega, by omega⟩, ⟨?_, fun j hj => ?_, by have := HZ.out.2; omega⟩, hz⟩
    · rw [List.length_map, ← HN.out, hW4, ← h1.2.1]
      exact heap_alloc_new _ _ rfl
    · rw [List.length_map] at hj
      have h2 := (HL.out W4 hb).rwc hj
      rw [h2]
      unfold nd
      rw [getD_of (by simpa using hj), List.getElem_map, getElem!_pos _ j hj]
  clear hW4 hW3 HW3 hmk c0 c0a c0b
  go_wp2_with fail
  refine (wpIn_wide (n := 10)).1 ?_
  refine loop_cut 0 (fun W => ∃ v, TG w (w.heap.size + 1) (w.heap.size + 2) ys.reverse W v) (fun _ _ h => h) ?loop ?rest
  case loop =>
    refine wpIn_rangeFunc_ownH rfl (by omega) (gf := 91) (lb := #[ptr (w.heap.size + 2)]) rfl trivial (enters_of Tryz.func91 (by kernel_rfl) rfl)
      (back_stops Fence.wide 9 trivial rfl (by omega) (w.heap.size + 2) g off cc n (ys.map Vr.b) (by have := HZ.out.1; have := HN.out; omega) (by rw [List.length_map]; exact HN.out) W4 HG0.out.2.1) KBG.trans (KBG.put (by have := HG0.out.2.2; omega) (by have := HZ.out.2; have := HG0.out.2.2; omega)) (Below.refl _ _) (fun _ => rfl)
      (fun pre W => ∃ v, TG w (w.heap.size + 1) (w.heap.size + 2) (pre.map (yv ys)) W v)
      (fun _ _ _ => False)
      (TG.own _ (by have := HG0.out.2.2; omega))
      (fun _ _ _ _ _ hs _ _ => hs)
      ⟨_, HG0.out.1⟩
      (fun x a' _ => a' = { tmps := #[ptr c, undef, .slice none 0 0, ptr (w.heap.size + 1), undef, ptr (nd (ys.map Vr.b) (cl n x)), ptr c, ptr c, ptr c, .slice (some ⟨g, off, none⟩) n cc, .int .i64 (n : Int), .slice (some ⟨w.heap.size, 0, none⟩) 0 n, ptr c, ptr c, ptr c, .slice (some ⟨g, off, none⟩) n cc, .func (.func 91) #[] #[ptr (w.heap.size + 2)], .int .i64 ((cl n x : Nat) : Int), ptr (nd (ys.map Vr.b) (cl n x)), undef, undef, undef, undef, undef, undef], defers := [] })
      (fun _ _ _ _ _ _ hs _ _ => hs)
      ?assign ?body ?done ?stop
    case assign =>
      rintro ll pre x W K ⟨v, hk⟩ hK
      gi_wp2
      exact hK _ _ ((KeepsOthers.refl _).from _) (KBG.refl _ _ _) ⟨v, hk⟩ rfl
    case body =>
      rintro ll pre x a' W hll ⟨r, hr⟩ ⟨v, hk⟩ rfl hlt
      have hpos : 0 < ys.length := by have := HN.out; omega
      have hyb := yv_b ys x hpos
      rw [← HN.out] at hyb
      rw [hyb]
      obtain ⟨q, a0, c0, rfl⟩ : ∃ q a0 c0, v = .slice a0 q c0 := by
        obtain ⟨a0, c0, e⟩ := row_slice hk.ow
        exact ⟨_, a0, c0, e⟩
      have cN := hk.bx.cell
      have HT : Hid (Calls Tryz.prog 56 #[ptr (yv ys x).b] W.drew fun e w' => e = .returned (toldV (yv ys x)) ∧ Below W.heap.size W w') :=
        (told_any W.drew (yv ys x).b (yv ys x) ((HL.out W hk.bel).vb _ (yv_mem ys x hpos))).mono fun e w' ⟨h1, h2⟩ => ⟨h1, (drew_below W 1).trans h2⟩
      have HC : Hid (∀ W2, Below W.heap.size W W2 → W2.cell? ⟨w.heap.size + 1, 0, none⟩ = some (.slice a0 q c0)) := fun W2 hb => (hb.cell (p := ⟨w.heap.size + 1, 0, none⟩) hk.bx.lt).trans cN
      have HA : Hid (∀ W2, Below W.heap.size W W2 → ∀ ty, ∃ v' W5, (Builtin.append_ #[TVs, TVs] ty #[.slice a0 q c0, .slice (some ⟨W2.heap.size, 0, none⟩) 1 1]).run Tryz.prog (W2.alloc (.cells #[.int .i64 (yv ys x).ba, .int .i64 (yv ys x).ix, .bool (yv ys x).fl, .bool (yv ys x).ci, .int .i64 (yv ys x).cv] TV)) = .ok v' W5 ∧ (∃ a' n' c', v' = .slice a' n' c') ∧ (W5.cell? ⟨w.heap.size + 1, 0, none⟩ = some (.slice a0 q c0) ∧ W5.frozen? ⟨w.heap.size + 1, 0, none⟩ = false) ∧ KeepsOthers W W5 ∧ KBG (w.heap.size + 2) g W (W5.setCell ⟨w.heap.size + 1, 0, none⟩ v') ∧ TG w (w.heap.size + 1) (w.heap.size + 2) (pre.map (yv ys) ++ [yv ys x]) (W5.setCell ⟨w.heap.size + 1, 0, none⟩ v') v') := fun W2 hb => hk.app hb (yv ys x) (by simp; have := HZ.out.1; have := HN.out; omega) HZ.out.2 (by omega)
      clear hk hyb
      obtain ⟨y, hy⟩ : ∃ y, yv ys x = y := ⟨_, rfl⟩
      rw [hy] at HT HA ⊢
      have HY : Hid (yv ys x = y) := hy
      clear hy
      obtain ⟨yb, yn, yk, yba, yix, yfl, yci, ycv⟩ := y
      simp only [toldV] at HT HA ⊢
      gi_wp2_with fail
      refine wpIn_region_any (by kernel_rfl) ?_
      change wpAnyIn _ _ _ _ _ _ _ _ _ (World.drew _)
      refine wpAnyIn_ready (rs := [0, 1]) (by kernel_rfl) (by simp) ?_
      refine AllReadyIn.cons rfl (fun K hK => ?_) (AllReadyIn.cons rfl (fun K hK => ?_) (AllReadyIn.nil))
      · go_simp
        refine hK _ _ ?_
        clear hK K
        refine wpAnyIn_ready (rs := [1]) (by kernel_rfl) (by simp) ?_
        refine AllReadyIn.cons rfl (fun K hK => ?_) (AllReadyIn.nil)
        go_simp
        refine hK _ _ ?_
        clear hK K
        refine wpAnyIn_ready (rs := [2]) (by kernel_rfl) (by simp) ?_
        refine AllReadyIn.cons rfl (fun K hK => ?_) (AllReadyIn.nil)
        go_simp
        refine ⟨trivial, (CallsIn.inRound ll (callsIn_wide.2 HT.out)).mono ?_⟩
        rintro e W2 ⟨rfl, hb2⟩
        have HB2 : Hid (Below W.heap.size W W2) := hb2
        have c2 := HC.out W2 hb2
        have c2a : ∀ o, (W2.alloc o).cell? ⟨w.heap.size + 1, 0, none⟩ = some (.slice a0 q c0) := fun o => Lib.cell?_alloc_some _ c2
        have HA2 := hidC (HA.out W2 hb2)
        clear hb2 HT HA HC
        refine hK _ _ ?_
        clear hK K
        refine wpAnyIn_ready (rs := [3]) (by kernel_rfl) (by simp) ?_
        refine AllReadyIn.cons rfl (fun K hK => ?_) (AllReadyIn.nil)
        go_simp
        refine hK _ _ ?_
        clear hK K
        refine wpAnyIn_ready (rs := [4]) (by kernel_rfl) (by simp) ?_
        refine AllReadyIn.cons rfl (fun K hK => ?_) (AllReadyIn.nil)
        refine stepIn_app rfl _ _ TVs rfl (.slice a0 q c0) (.slice (some ⟨W2.heap.size, 0, none⟩) 1 1) rfl rfl HA2.out ?_
        rintro v' W5 ⟨⟨a', n', c', rfl⟩, ⟨c5, f5⟩, hk5⟩
        have HK6 := hidC hk5
        clear hk5 HA2
        refine hK _ _ ?_
        clear hK K
        refine wpAnyIn_ready (rs := [5]) (by kernel_rfl) (by simp) ?_
        refine AllReadyIn.cons rfl (fun K hK => ?_) (AllReadyIn.nil)
        go_simp
        refine hK _ _ ?_
        clear hK K
        refine wpAnyIn_done (by kernel_rfl) ?_ _
        gi_wp2
        exact ⟨(HK6.out.1.trans (KeepsOthers.setCell _ _ _)).from _, HK6.out.2.1, _, by have h9 := HK6.out.2.2; rw [← HY.out] at h9; simpa using h9⟩
      · go_simp
        refine hK _ _ ?_
        clear hK K
        refine wpAnyIn_ready (rs := [0, 2]) (by kernel_rfl) (by simp) ?_
        refine AllReadyIn.cons rfl (fun K hK => ?_) (AllReadyIn.cons rfl (fun K hK => ?_) (AllReadyIn.nil))
        · go_simp
          refine hK _ _ ?_
          clear hK K
          refine wpAnyIn_ready (rs := [2]) (by kernel_rfl) (by simp) ?_
          refine AllReadyIn.cons rfl (fun K hK => ?_) (AllReadyIn.nil)
          go_simp
          refine ⟨trivial, (CallsIn.inRound ll (callsIn_wide.2 HT.out)).mono ?_⟩
          rintro e W2 ⟨rfl, hb2⟩
          have HB2 : Hid (Below W.heap.size W W2) := hb2
          have c2 := HC.out W2 hb2
          have c2a : ∀ o, (W2.alloc o).cell? ⟨w.heap.size + 1, 0, none⟩ = some (.slice a0 q c0) := fun o => Lib.cell?_alloc_some _ c2
          have HA2 := hidC (HA.out W2 hb2)
          clear hb2 HT HA HC
          refine hK _ _ ?_
          clear hK K
          refine wpAnyIn_ready (rs := [3]) (by kernel_rfl) (by simp) ?_
          refine AllReadyIn.cons rfl (fun K hK => ?_) (AllReadyIn.nil)
          go_simp
          refine hK _ _ ?_
          clear hK K
          refine wpAnyIn_ready (rs := [4]) (by kernel_rfl) (by simp) ?_
          refine AllReadyIn.cons rfl (fun K hK => ?_) (AllReadyIn.nil)
          refine stepIn_app rfl _ _ TVs rfl (.slice a0 q c0) (.slice (some ⟨W2.heap.size, 0, none⟩) 1 1) rfl rfl HA2.out ?_
          rintro v' W5 ⟨⟨a', n', c', rfl⟩, ⟨c5, f5⟩, hk5⟩
          have HK6 := hidC hk5
          clear hk5 HA2
          refine hK _ _ ?_
          clear hK K
          refine wpAnyIn_ready (rs := [5]) (by kernel_rfl) (by simp) ?_
          refine AllReadyIn.cons rfl (fun K hK => ?_) (AllReadyIn.nil)
          go_simp
          refine hK _ _ ?_
          clear hK K
          refine wpAnyIn_done (by kernel_rfl) ?_ _
          gi_wp2
          exact ⟨(HK6.out.1.trans (KeepsOthers.setCell _ _ _)).from _, HK6.out.2.1, _, by have h9 := HK6.out.2.2; rw [← HY.out] at h9; simpa using h9⟩
        · go_simp
          refine ⟨trivial, (CallsIn.inRound ll (callsIn_wide.2 HT.out)).mono ?_⟩
          rintro e W2 ⟨rfl, hb2⟩
          have HB2 : Hid (Below W.heap.size W W2) := hb2
          have c2 := HC.out W2 hb2
          have c2a : ∀ o, (W2.alloc o).cell? ⟨w.heap.size + 1, 0, none⟩ = some (.slice a0 q c0) := fun o => Lib.cell?_alloc_some _ c2
          have HA2 := hidC (HA.out W2 hb2)
          clear hb2 HT HA HC
          refine hK _ _ ?_
          clear hK K
          refine wpAnyIn_ready (rs := [0, 3]) (by kernel_rfl) (by simp) ?_
          refine AllReadyIn.cons rfl (fun K hK => ?_) (AllReadyIn.cons rfl (fun K hK => ?_) (AllReadyIn.nil))
          · go_simp
            refine hK _ _ ?_
            clear hK K
            refine wpAnyIn_ready (rs := [3]) (by kernel_rfl) (by simp) ?_
            refine AllReadyIn.cons rfl (fun K hK => ?_) (AllReadyIn.nil)
            go_simp
            refine hK _ _ ?_
            clear hK K
            refine wpAnyIn_ready (rs := [4]) (by kernel_rfl) (by simp) ?_
            refine AllReadyIn.cons rfl (fun K hK => ?_) (AllReadyIn.nil)
            refine stepIn_app rfl _ _ TVs rfl (.slice a0 q c0) (.slice (some ⟨W2.heap.size, 0, none⟩) 1 1) rfl rfl HA2.out ?_
            rintro v' W5 ⟨⟨a', n', c', rfl⟩, ⟨c5, f5⟩, hk5⟩
            have HK6 := hidC hk5
            clear hk5 HA2
            refine hK _ _ ?_
            clear hK K
            refine wpAnyIn_ready (rs := [5]) (by kernel_rfl) (by simp) ?_
            refine AllReadyIn.cons rfl (fun K hK => ?_) (AllReadyIn.nil)
            go_simp
            refine hK _ _ ?_
            clear hK K
            refine wpAnyIn_done (by kernel_rfl) ?_ _
            gi_wp2
            exact ⟨(HK6.out.1.trans (KeepsOthers.setCell _ _ _)).from _, HK6.out.2.1, _, by have h9 := HK6.out.2.2; rw [← HY.out] at h9; simpa using h9⟩
          · go_simp
            refine hK _ _ ?_
            clear hK K
            refine wpAnyIn_ready (rs := [0]) (by kernel_rfl) (by simp) ?_
            refine AllReadyIn.cons rfl (fun K hK => ?_) (AllReadyIn.nil)
            go_simp
            refine hK _ _ ?_
            clear hK K
            refine wpAnyIn_ready (rs := [4]) (by kernel_rfl) (by simp) ?_
            refine AllReadyIn.cons rfl (fun K hK => ?_) (AllReadyIn.nil)
            refine stepIn_app rfl _ _ TVs rfl (.slice a0 q c0) (.slice (some ⟨W2.heap.size, 0, none⟩) 1 1) rfl rfl HA2.out ?_
            rintro v' W5 ⟨⟨a', n', c', rfl⟩, ⟨c5, f5⟩, hk5⟩
            have HK6 := hidC hk5
            clear hk5 HA2
            refine hK _ _ ?_
            clear hK K
            refine wpAnyIn_ready (rs := [5]) (by kernel_rfl) (by simp) ?_
            refine AllReadyIn.cons rfl (fun K hK => ?_) (AllReadyIn.nil)
            go_simp
            refine hK _ _ ?_
            clear hK K
            refine wpAnyIn_done (by kernel_rfl) ?_ _
            gi_wp2
            exact ⟨(HK6.out.1.trans (KeepsOthers.setCell _ _ _)).from _, HK6.out.2.1, _, by have h9 := HK6.out.2.2; rw [← HY.out] at h9; simpa using h9⟩
    case done =>
      rintro D' xs W hD rfl ⟨v, hk⟩ hK
      rw [HN.out, yv_dn] at hk
      exact ⟨.inl rfl, D', hD, rfl, ⟨v, hk⟩, hK⟩
    case stop =>
      rintro D' c pre W hD _ hIx hK
      exact hIx.elim
  case rest =>
    rintro D1 W6 hD1 ⟨v, hk⟩ hK1
    obtain ⟨q, a0, c0, rfl⟩ : ∃ q a0 c0, v = .slice a0 q c0 := by
      obtain ⟨a0, c0, e⟩ := row_slice hk.ow
      exact ⟨_, a0, c0, e⟩
    have cN := hk.bx.cell
    have HK := hidC hk
    have HB6 : Hid (W6.heap[D1]? = some (.deferred (some [])) ∧ w.heap.size ≤ D1) := ⟨hK1, by have := HG0.out.2.2; omega⟩
    clear hk hK1
    go_wp2
    have hd7 := HB6.out.1
    refine ⟨by simp, .inl ⟨D1, _, rfl, run_takeDeferred hd7, ?_⟩⟩
    refine ⟨.slice a0 q c0, by simp [results, Tryz.f62, go_sem], _, rfl, ?_, ?_⟩
    · have h1 := rowOwn HK.out.ow (grownBy_putObj' W6 D1 (.deferred none)) (fun r e => by cases e; exact ⟨_, hd7, rfl⟩)
      rwa [List.length_reverse, ← HN.out] at h1
    · exact HK.out.bel.trans (belowK_b (w := w) (Nat.le_refl _) W6 D1 _ (.deferred none) HB6.out.2 hd7 rfl rfl)
end Go.Proofs.YtbcmmeajglilbaaGreat
/-
  THE WALKS OF slices.BinarySearchFunc AND Find.
-/
namespace Go.Proofs.YtbcmmeajglilbaaGreat
open Go.RowKit Go.Sort

/-- how many are below a key -/
def cnt (L : List K) (k : K) : Nat := (L.filter fun x => lt x k).length
theorem cnt_eq {L : List K} {k : K} {i : Nat} (hi : i ≤ L.length) (h1 : ∀ x, x < i → lt (kd L x) k = true) (h2 : ∀ x, i ≤ x → x < L.length → lt (kd L x) k = false) : cnt L k = i := by
  have e : L.filter (fun x => lt x k) = L.take i := by
    have hs := List.take_append_drop i L
    have ht : (L.take i).filter (fun x => lt x k) = L.take i := by
      rw [List.filter_eq_self]
      intro a ha
      obtain ⟨j, hj, he⟩ := List.mem_iff_getElem.1 ha
      have hj' : j < i := by simp at hj; omega
      have := h1 j hj'
      rw [List.getElem_take] at he
      have hg := kd_get (L := L) (j := j) (by simp at hj; omega)
      rw [List.getElem?_eq_getElem (by simp at hj; omega), Option.some.injEq, he] at hg
      rw [hg]; exact this
    have hd : (L.drop i).filter (fun x => lt x k) = [] := by
      rw [List.filter_eq_nil_iff]
      intro a ha
      obtain ⟨j, hj, he⟩ := List.mem_iff_getElem.1 ha
      have hjl : i + j < L.length := by simp at hj; omega
      have := h2 (i + j) (by omega) hjl
      rw [List.getElem_drop] at he
      have hg := kd_get hjl
      rw [List.getElem?_eq_getElem hjl, Option.some.injEq, he] at hg
      rw [hg, this]; decide
    calc L.filter (fun x => lt x k) = (L.take i ++ L.drop i).filter (fun x => lt x k) := by rw [hs]
      _ = L.take i := by rw [List.filter_append, ht, hd, List.append_nil]
  unfold cnt
  rw [e, List.length_take]; omega
theorem mem_at {L : List K} {k : K} {i : Nat} (hi : i ≤ L.length) (h1 : ∀ x, x < i → lt (kd L x) k = true) (h2 : ∀ x, i ≤ x → x < L.length → lt (kd L x) k = false) (hr : Rise L) : k ∈ L ↔ i < L.length ∧ kd L i = k := by
  constructor
  · intro hk
    obtain ⟨j, hj, he⟩ := List.mem_iff_getElem.1 hk
    have hg := kd_get hj
    rw [List.getElem?_eq_getElem hj, Option.some.injEq, he] at hg
    have hij : i ≤ j := by
      rcases Nat.lt_or_ge j i with h | h
      · have := h1 j h; rw [← hg, lt_irrefl] at this; cases this
      · exact h
    by_cases hij2 : i = j
    · subst hij2; exact ⟨hj, hg.symm⟩
    · have := rise_pair (i := i) (j := j) (by omega) hj hr
      rw [← hg, h2 i (Nat.le_refl _) (by omega)] at this; cases this
  · rintro ⟨h, rfl⟩; exact kd_mem h

/-- what Find answers -/
def findN (L : List K) (k : K) : Nat := if Rise L then cnt L k else 0
def findB (L : List K) (k : K) : Bool := decide (Rise L) && decide (k ∈ L)
end Go.Proofs.YtbcmmeajglilbaaGreat
/-
  LISTS OF KEYS AS ARGUMENTS; stands, sameKeys.
-/
namespace Go.Proofs.YtbcmmeajglilbaaGreat
open Go.RowKit Go.Sort

/-- A LIST OF KEYS: a slice, its length, its cells -/
structure Lst (w : World) (ao : Option Addr) (n cap : Nat) (L : List K) : Prop where
  len : n = L.length
  at_ : KeysAt w ao L
  nil : ao = none → cap = 0
  cap : n ≤ cap
theorem Lst.kept {w w1 : World} {ao : Option Addr} {n cap : Nat} {L : List K} (h : Lst w ao n cap L) (hb : Below w.heap.size w w1) : Lst w1 ao n cap L := ⟨h.len, h.at_.kept hb, h.nil, h.cap⟩
theorem Lst.far {w w1 : World} {ao : Option Addr} {n cap B : Nat} {L : List K} (h : Lst w ao n cap L) (hb : Below B w w1) (hB : ∀ a, L ≠ [] → ao = some a → a.block < B) : Lst w1 ao n cap L := ⟨h.len, h.at_.below hb hB, h.nil, h.cap⟩
def Flat (ao : Option Addr) : Prop := ∀ a, ao = some a → a.spot = none
theorem OwnK.lst {w : World} {base : Nat} {v : Value} {L : List K} (h : OwnK w base v L) : ∃ ao n cap, v = .slice ao n cap ∧ Lst w ao n cap L ∧ Flat ao := by
  rcases h.shape with ⟨rfl, rfl⟩ | ⟨g, cap, rfl, _, _, hc, _, hk⟩
  · exact ⟨none, 0, 0, rfl, ⟨rfl, .inl rfl, fun _ => rfl, Nat.le_refl _⟩, fun _ e => by cases e⟩
  · exact ⟨_, _, cap, rfl, ⟨rfl, hk, by simp, hc⟩, fun a e => by cases e; rfl⟩
theorem Lst.at {w : World} {ao : Option Addr} {n cap : Nat} {L : List K} (h : Lst w ao n cap L) (k : Nat) (hk : k < n) : ∃ b off, ao = some ⟨b, off, none⟩ ∧ w.cell? ⟨b, off + k * 2, none⟩ = some (.int .i64 (kd L k).1) ∧ w.cell? ⟨b, off + k * 2 + 1, none⟩ = some (.int .i64 (kd L k).2) := by
  have hl : k < L.length := by have := h.len; omega
  rcases h.at_ with h0 | ⟨b, off, rfl, hc⟩
  · rw [h0] at hl; simp at hl
  · exact ⟨b, off, rfl, KeysAt.at hc k hl⟩

theorem eq_of_takes {A B : List K} (hl : A.length = B.length) (k : Nat) (hk : k < A.length) : (A.take (k + 1) = B.take (k + 1)) ↔ (A.take k = B.take k ∧ kd A k = kd B k) := by
  rw [take_kd A k hk, take_kd B k (by omega)]
  constructor
  · intro h
    have := List.append_inj h (by simp; omega)
    exact ⟨this.1, by simpa using this.2⟩
  · rintro ⟨h1, h2⟩; rw [h1, h2]

end Go.Proofs.YtbcmmeajglilbaaGreat
/-
  THE WALKS OF THE DOCUMENT's all, Rises, Has.
-/
namespace Go.Proofs.YtbcmmeajglilbaaGreat
open Go.RowKit Go.Sort

set_option maxHeartbeats 2000000 in
set_option maxRecDepth 100000 in
theorem refAll_any (w : World) (ao : Option Addr) (cap n : Nat) (L : List K) (hn : n = L.length) (h : KeysAt w ao L) (hm : n ≤ 8796093022208) :
    Calls Tryz.prog 86 #[.slice ao n cap] w fun e w' => e = .returned (.bool (L.all isKey)) ∧ ∃ q os, w' = grow (w.drewN q) os := by
  have HN : Hid (n = L.length) := hn
  have HK : Hid (KeysAt w ao L) := h
  clear hn h
  go_enter Tryz.func86, Tryz.ntmps86
  go_wp2_with fail
  go_loopw [3] (fun x wr => ∃ k : Nat, k ≤ n ∧ x = .int .i64 (k : Int) ∧ Hid ((L.take k).all isKey = true) ∧ Hid (Grew w wr)) (fun x _ => n - (intOf x).toNat)
  case atStart => exact ⟨0, Nat.zero_le _, rfl, by simp [Hid], Grew.refl _⟩
  case round =>
    obtain ⟨k, hk, rfl, HA, HG⟩ := hrel
    by_cases hlt : k < n
    · have hl : k < L.length := by have := HN.out; omega
      rcases HK.out.grew HG.out with h0 | ⟨b, off, rfl, hc⟩
      · rw [h0] at hl; simp at hl
      · obtain ⟨c1, c2⟩ := KeysAt.at hc k hl
        have HT : Hid (isKey (kd L k) = true → (L.take (k + 1)).all isKey = true) := all_take L k HA.out hl
        have HF : Hid (isKey (kd L k) = false → L.all isKey = false) := all_false hl
        generalize kd L k = kk at *
        obtain ⟨t, r⟩ := kk
        simp only at c1 c2
        clear hc hl
        have HC : Hid (∀ b, isKey (t, r) = b → ∀ w, Calls Tryz.prog 40 #[.agg #[.int .i64 t, .int .i64 r]] w fun e w' => e = .returned (.int .i64 (errOf b 20)) ∧ ∃ q os, w' = grow (w.drewN q) os) := fun b hb w => hb ▸ refCheck_any w t r
        cases hik : isKey (t, r) with
        | false =>
          have HE : Hid (L.all isKey = false) := HF.out hik
          have HC1 := HC.out _ hik
          simp only [errOf] at HC1
          have HC2 : Hid _ := HC1
          clear HT HF HC hik HC1
          go_wp2_with fail
          refine (HC2.out _).mono ?_
          rintro e w1 ⟨rfl, hg⟩
          go_wp2
          go_ret
          exact ⟨by rw [HE.out]; rfl, HG.out.trans hg⟩
        | true =>
          have HE : Hid ((L.take (k + 1)).all isKey = true) := HT.out hik
          have HC1 := HC.out _ hik
          simp only [errOf] at HC1
          have HC2 : Hid _ := HC1
          clear HT HF HC hik HC1
          go_wp2_with fail
          refine (HC2.out _).mono ?_
          rintro e w1 ⟨rfl, hg⟩
          have HG1 : Hid (Grew w w1) := HG.out.trans hg
          clear hg
          go_wp2_with fail
          go_roundw
          case rel => exact ⟨k + 1, by omega, by go_num, HE, HG1⟩
          case measure => simp [intOf]; omega
    · obtain rfl : k = n := by omega
      have HE : Hid (L.all isKey = true) := by have := HA.out; rwa [HN.out, List.take_length] at this
      go_wp2
      go_ret
      exact ⟨by rw [HE.out]; rfl, HG.out⟩

end Go.Proofs.YtbcmmeajglilbaaGreat
/-
  THE WALKS OF THE DOCUMENT's Rises, Has, Find.
-/
namespace Go.Proofs.YtbcmmeajglilbaaGreat
open Go.RowKit Go.Sort

def RisesTo (b : Bool) (L : List K) (k : Nat) : Prop := b = true ↔ (L.all isKey = true ∧ Rise (L.take k))
theorem RisesTo.start (L : List K) : RisesTo (L.all isKey) L 1 := by
  unfold RisesTo
  constructor
  · intro h
    refine ⟨h, ?_⟩
    cases L with
    | nil => exact rise_nil
    | cons a L => exact ⟨by simp at h; simpa using h.1, by simp⟩
  · exact fun h => h.1
theorem RisesTo.no {L : List K} {k : Nat} (h : RisesTo false L k) : RisesTo false L (k + 1) := by
  unfold RisesTo at *
  constructor
  · intro e; cases e
  · rintro ⟨h1, h2⟩
    refine h.2 ⟨h1, ?_⟩
    have := h2.take k
    rwa [List.take_take, Nat.min_eq_left (by omega)] at this
theorem RisesTo.step {L : List K} {j : Nat} (hk : j + 1 < L.length) (h : RisesTo true L (j + 1)) : RisesTo (lt (kd L j) (kd L (j + 1))) L (j + 1 + 1) := by
  unfold RisesTo at *
  obtain ⟨h1, h2⟩ := h.1 rfl
  constructor
  · intro e
    exact ⟨h1, rise_next hk h2 ((List.all_eq_true.1 h1) _ (kd_mem hk)) (fun i hi => by rw [show i = j by omega]; exact e)⟩
  · rintro ⟨_, h3⟩
    have := rise_pair (L := L.take (j + 1 + 1)) (i := j) (j := j + 1) (by omega) (by simp; omega) h3
    have e : ∀ i, i < j + 1 + 1 → kd (L.take (j + 1 + 1)) i = kd L i := fun i hi => by
      unfold kd; rw [List.getD_eq_getElem?_getD, List.getD_eq_getElem?_getD, List.getElem?_take, if_pos hi]
    rwa [e j (by omega), e (j + 1) (by omega)] at this
theorem RisesTo.all {b : Bool} {L : List K} {k : Nat} (h : RisesTo b L k) (hk : L.length ≤ k) : b = decide (Rise L) := by
  unfold RisesTo at h
  rw [List.take_of_length_le hk] at h
  cases b with
  | true => exact (decide_eq_true (h.1 rfl).2).symm
  | false => exact (decide_eq_false (fun hr => by have := h.2 ⟨List.all_eq_true.2 hr.1, hr⟩; cases this)).symm

end Go.Proofs.YtbcmmeajglilbaaGreat
/-
  THE WALKS OF THE DOCUMENT's Find AND both.
-/
namespace Go.Proofs.YtbcmmeajglilbaaGreat
open Go.RowKit Go.Sort

theorem find_at {L : List K} {k : K} {m : Nat} (hr : Rise L) (hm : m < L.length) (h1 : ∀ x, x < m → lt (kd L x) k = true) (h2 : lt (kd L m) k = false) : cnt L k = m ∧ (k ∈ L ↔ kd L m = k) := by
  have h3 : ∀ x, m ≤ x → x < L.length → lt (kd L x) k = false := fun x hx hxl => by
    by_cases e : x = m
    · rw [e]; exact h2
    · cases h : lt (kd L x) k with
      | false => rfl
      | true => rw [lt_trans (rise_pair (i := m) (j := x) (by omega) hxl hr) h] at h2; cases h2
  refine ⟨cnt_eq (by omega) h1 h3, ?_, fun e => e ▸ kd_mem hm⟩
  intro hk
  obtain ⟨i, hi, he⟩ := List.mem_iff_getElem.1 hk
  have hg := kd_get hi
  rw [List.getElem?_eq_getElem hi, Option.some.injEq, he] at hg
  by_cases e1 : i < m
  · have := h1 i e1; rw [← hg, lt_irrefl] at this; cases this
  · by_cases e2 : i = m
    · rw [← e2]; exact hg.symm
    · have := rise_pair (i := m) (j := i) (by omega) hi hr
      rw [← hg, h2] at this; cases this
theorem find_end {L : List K} {k : K} (h1 : ∀ x, x < L.length → lt (kd L x) k = true) : cnt L k = L.length ∧ k ∉ L := by
  refine ⟨cnt_eq (Nat.le_refl _) h1 (fun x hx hxl => by omega), fun hk => ?_⟩
  obtain ⟨i, hi, he⟩ := List.mem_iff_getElem.1 hk
  have hg := kd_get hi
  rw [List.getElem?_eq_getElem hi, Option.some.injEq, he] at hg
  have := h1 i hi
  rw [← hg, lt_irrefl] at this; cases this

end Go.Proofs.YtbcmmeajglilbaaGreat
/-
  lent, back: lists that are lent.
-/
namespace Go.Proofs.YtbcmmeajglilbaaGreat
open Go.RowKit Go.Sort

theorem cks_zero : ∀ c : Nat, cks (List.replicate c (0, 0)) = List.replicate (c * 2) (.int .i64 0)
  | 0 => rfl
  | c + 1 => by
    rw [List.replicate_succ, show (c + 1) * 2 = c * 2 + 1 + 1 by omega, List.replicate_succ, List.replicate_succ]
    simp only [cks, cks_zero c]
theorem toList_madeCells_two (z : Value) (n : Nat) : (madeCells #[z, z] n).toList = List.replicate n z := by
  apply List.ext_getElem?
  intro j
  by_cases hj : j < n
  · rcases Nat.mod_two_eq_zero_or_one j with h | h <;> simp [madeCells, hj, h]
  · simp [madeCells, hj]
theorem make_keys (c : Nat) (C : Int) (hC : C = c) (hc : c * 16 ≤ 281474976710656) (u : World) : (Instr.makeSlice 85 (.int .i64 C) (.int .i64 C)).run Tryz.prog u =
    .ok (.slice (some ⟨u.heap.size, 0, none⟩) c c) (u.alloc (.cells (cks (List.replicate c (0, 0))).toArray 41)) := by
  subst hC
  obtain ⟨i0, hi, hz0, hz1, hz2⟩ := info_parts infoK
  have h := run_make (P := Tryz.prog) u 85 41 i0 (.agg #[.int .i64 0, .int .i64 0]) Tryz.underlying85 hi hz0 .i64 .i64 (c : Int) (c : Int) (by omega) (Int.le_refl _) (by rw [hz2]; omega) (by omega)
  have e : madeCells (Value.agg #[.int .i64 0, .int .i64 0]).cells (c * 2) = (cks (List.replicate c (0, 0))).toArray := by
    apply Array.ext'
    rw [cks_zero]
    exact toList_madeCells_two _ _
  rw [hz1, Int.toNat_natCast, e] at h
  exact h
/-- a row that is known whole -/
theorem OwnK.of_row {w : World} {base g : Nat} {Z : List K} (hb : base ≤ g) (hg : w.heap[g]? = some (.cells (cks Z).toArray 41 (0, 0))) (hc : Z.length ≤ maxLen) : OwnK w base (own g Z.length Z.length) Z :=
  ⟨cks_length Z, .inr ⟨g, Z.length, _, rfl, hb, hg, Nat.le_refl _, hc, by simp [cks_length], by simp [cks_length, List.take_of_length_le]⟩⟩
theorem cks_drop : ∀ (n : Nat) (Z : List K), (cks Z).drop (n * 2) = cks (Z.drop n)
  | 0, Z => by simp
  | n + 1, [] => by simp [cks]
  | n + 1, z :: Z => by
    rw [show (n + 1) * 2 = n * 2 + 1 + 1 by omega]
    simp only [cks, List.drop_succ_cons, cks_drop n Z]
theorem run_copy_keys (w : World) (ty : TypeId) (g dLen dCap : Nat) (a : Addr) (n c : Nat) (L Z : List K) (hn : n = L.length) (hz : dLen = Z.length) (hle : n ≤ dLen)
    (hg : w.heap[g]? = some (.cells (cks Z).toArray 41 (0, 0))) (hsrc : KeysAt w (some a) L) (M : List K) (hM : L ++ Z.drop n = M) :
    (Builtin.copy_ #[85, 85] ty #[.slice (some ⟨g, 0, none⟩) dLen dCap, .slice (some a) n c]).run Tryz.prog w = .ok (goInt n) (w.setRow g (cks M).toArray) := by
  subst hM
  have hl := run_loadCells_list (P := Tryz.prog) w a (cks L) (by
    intro j u hu
    rcases hsrc with h0 | ⟨b, off, e, hc⟩
    · subst h0; simp [cks] at hu
    · cases e; rw [addr_add]; exact hc j u hu)
  have hst := run_storeCells_at Tryz.prog g 0 41 (cks L) 0 (cks Z).toArray w hg (by simp [cks_length]; omega) (cks_one L)
  obtain ⟨i0, hi, hz0, hz1, hz2⟩ := info_parts infoK
  have e1 : (cks L).length = n * 2 := by rw [cks_length, hn]
  have e2 : Nat.min n dLen = n := Nat.min_eq_left hle
  rw [e1] at hl hst
  simp only [Nat.add_zero, Nat.zero_add, List.take_zero, List.nil_append, cks_drop, ← cks_append] at hst
  simp [Builtin.copy_, run_underlying Tryz.underlying85, Builtin.lenOf, Builtin.firstCells, sizeOf, typeInfo, hi, hz1, e2, hl, hst]

theorem run_eqNil (ao : Option Addr) (n c : Nat) (w : World) : (binOp .eql 85 (.slice ao n c) (.slice none 0 0)).run Tryz.prog w = .ok (.bool ao.isNone) w := by
  simp only [binOp]
  simp [run_equal_slice_nil w 85 41 ao n c Tryz.underlying85]
/-- the keys behind a lent list's end, k of them laid -/
def padK (k : Nat) : List K := (List.range 5).map fun j => if j < k then (-9, (j : Int)) else (0, 0)
theorem padK_set : ∀ k, k < 5 → (padK k).set k (-9, (k : Int)) = padK (k + 1) := by decide
theorem padK_len (k : Nat) : (padK k).length = 5 := by simp [padK]
theorem padK_zero : List.replicate 5 ((0, 0) : K) = padK 0 := by decide
theorem padK_at : ∀ k, k < 5 → kd (padK 5) k = (-9, (k : Int)) := by decide
theorem lent_set (L : List K) (k : Nat) (hk : k < 5) : (L ++ padK k).set (L.length + k) (-9, (k : Int)) = L ++ padK (k + 1) := by
  rw [List.set_append_right _ _ (by omega), show L.length + k - L.length = k by omega, padK_set k hk]
theorem setRow_below {w : World} {g B : Nat} {o : Array Value} {t : TypeId} {c : Array Value} (hB : B ≤ w.heap.size) (hg : B ≤ g) : Below B w ((w.alloc (.cells c t)).setRow g o) :=
  ((Below.refl B w).alloc hB _).trans ⟨rfl, rfl, rfl, by simp [World.setRow], fun k hk => setRow_other _ g k o (by omega)⟩

theorem OwnK.lst_at {w : World} {base g n cap : Nat} {L : List K} (h : OwnK w base (own g n cap) L) : KeysAt w (some ⟨g, 0, none⟩) L := by
  rcases h.shape with ⟨e, _⟩ | ⟨g', c', e, _, _, _, _, hk⟩
  · cases e
  · cases e; exact hk
theorem lent_part {w : World} {base g n : Nat} {L : List K} (hn : n = L.length) (h : OwnK w base (own g (n + 5) (n + 5)) (L ++ padK 5)) : OwnK w base (own g n (n + 5)) L := by
  have := h.prefix n (by omega)
  rwa [hn, List.take_left, ← hn] at this

theorem grown_trans {a b c : World} {g : Option Nat} (h : a.grownBy b g) (h' : b.grownBy c g) : a.grownBy c g :=
  ⟨h'.os.trans h.os, h'.tape.trans h.tape, h'.output.trans h.output, Nat.le_trans h.size h'.size, fun k hk hne => (h'.block k (Nat.lt_of_lt_of_le hk h.size) hne).trans (h.block k hk hne)⟩
theorem lent_at {w : World} {base g n : Nat} {L : List K} (hn : n = L.length) (h : OwnK w base (own g (n + 5) (n + 5)) (L ++ padK 5)) (k : Nat) (hk : k < 5) :
    w.cell? ⟨g, (n + k) * 2, none⟩ = some (.int .i64 (-9)) ∧ w.cell? ⟨g, (n + k) * 2 + 1, none⟩ = some (.int .i64 (k : Int)) := by
  have h1 := h.at (n + k) (by omega)
  have e : kd (L ++ padK 5) (n + k) = (-9, (k : Int)) := by rw [hn, kd_right L (padK 5) k (by rw [padK_len]; exact hk), padK_at k hk]
  rwa [e] at h1

/-- A LIST THAT IS LENT -/
def Lent (w : World) (base : Nat) (a : Option Addr) (n c : Nat) (ao : Option Addr) (L : List K) : Prop :=
  (a = none ∧ n = 0 ∧ c = 0 ∧ ao = none ∧ L = []) ∨ ∃ g, a = some ⟨g, 0, none⟩ ∧ c = n + 5 ∧ ao ≠ none ∧ n = L.length ∧ OwnK w base (own g (n + 5) (n + 5)) (L ++ padK 5)
theorem Lent.lst {w : World} {base n c : Nat} {a ao : Option Addr} {L : List K} (h : Lent w base a n c ao L) : Lst w a n c L := by
  rcases h with ⟨rfl, rfl, rfl, _, rfl⟩ | ⟨g, rfl, rfl, _, hn, h⟩
  · exact ⟨rfl, .inl rfl, fun _ => rfl, Nat.le_refl _⟩
  · exact ⟨hn, (lent_part hn h).lst_at, by simp, by omega⟩
theorem Lent.flat {w : World} {base n c : Nat} {a ao : Option Addr} {L : List K} (h : Lent w base a n c ao L) : Flat a := by
  rcases h with ⟨rfl, _⟩ | ⟨g, rfl, _⟩
  · intro a e; cases e
  · intro a e; cases e; rfl
theorem Lent.lt {w : World} {base n c : Nat} {a ao : Option Addr} {L : List K} (h : Lent w base a n c ao L) : ∀ x, a = some x → base ≤ x.block ∧ x.block < w.heap.size := by
  intro x e
  rcases h with ⟨rfl, _⟩ | ⟨g, rfl, _, _, _, h⟩
  · cases e
  · cases e; exact h.lt _ rfl
theorem Lent.kept {w w1 : World} {base n c : Nat} {a ao : Option Addr} {L : List K} (h : Lent w base a n c ao L) (hb : Below w.heap.size w w1) : Lent w1 base a n c ao L := by
  rcases h with h | ⟨g, h1, h2, h3, h4, h⟩
  · exact .inl h
  · exact .inr ⟨g, h1, h2, h3, h4, h.kept hb⟩
end Go.Proofs.YtbcmmeajglilbaaGreat
