/-
  Put OF A KEY THAT IS THERE.
-/
import Derived.Test.YtghfofjpoeckkaaHLink
namespace Go.Proofs.Ytghfofjpoeckkaa
open Go.RowKit Go.Sort

def ud (k : K) (v : Int × Int) (e : En) : En := if e.k = k then { e with v := v } else e
theorem ud_b (k : K) (v : Int × Int) (e : En) : (ud k v e).b = e.b := by unfold ud; split <;> rfl
theorem ud_k (k : K) (v : Int × Int) (e : En) : (ud k v e).k = e.k := by unfold ud; split <;> rfl
theorem ud_p (k : K) (v : Int × Int) (e : En) : (ud k v e).p = e.p := by unfold ud; split <;> rfl
theorem hp_ud (k : K) (v : Int × Int) (l : List En) : hp (l.map (ud k v)) = hp l := by
  cases l with
  | nil => rfl
  | cons e l => simp [hp, ud_b]
theorem lp_ud (k : K) (v : Int × Int) (l : List En) : lp (l.map (ud k v)) = lp l := by
  unfold lp
  rw [List.getLast?_map]
  cases l.getLast? with
  | none => rfl
  | some e => simp [ud_b]
theorem pt_ud (k : K) (v : Int × Int) (p : Nat) (l : List En) : pt p (l.map (ud k v)) = (pt p l).map (ud k v) := by
  unfold pt
  rw [List.filter_map]
  congr 1
  apply List.filter_congr
  intro x _
  simp [ud_p]
theorem cellsE_ud (e : En) (v : Int × Int) (x y : Value) : ((cellsE e x y).setIfInBounds 1 (.int .i64 v.1)).setIfInBounds 2 (.int .i64 v.2) = cellsE { e with v := v } x y := by simp [cellsE]
theorem DA.upd {w : World} {D M L P : Nat} {hf : Value} {es : List En} (h : DA w D M L hf P es) {k : K} {e : En} (he : fd es k = some e) (v : Int × Int) (hv : VIn v) : DA ((w.setCell ⟨e.b, 1, none⟩ (.int .i64 v.1)).setCell ⟨e.b, 2, none⟩ (.int .i64 v.2)) D M L hf P (es.map (ud k v)) := by
  obtain ⟨hm, hk⟩ := fd_some he
  obtain ⟨x0, y0, hb0⟩ := h.entry hm
  have nD : D ≠ e.b := fun e' => by have := h.dc; rw [e', hb0] at this; cases this
  have nM : M ≠ e.b := fun e' => by obtain ⟨ms, c, h1, _⟩ := h.mp; rw [e', hb0] at h1; cases h1
  have nL : L ≠ e.b := fun e' => by obtain ⟨C, h1, _⟩ := h.ln; rw [e', hb0] at h1; cases h1
  refine ⟨blk_oth _ (blk_oth _ h.dc nD) nD, ?_, ?_, fun A' x C' hs => ?_, ?_, ?_, fun x hx => ?_, h.P0⟩
  · obtain ⟨ms, c, h1, h2⟩ := h.mp
    refine ⟨ms, c, blk_oth _ (blk_oth _ h1 nM) nM, h2.trans ?_⟩
    rw [List.map_map]
    apply List.map_congr_left
    intro x _
    simp [ud_k, ud_b]
  · obtain ⟨C, h1, h2, h3⟩ := h.ln
    refine ⟨C, blk_oth _ (blk_oth _ h1 nL) nL, h2, fun p hp' => ?_⟩
    rw [pt_ud, hp_ud, lp_ud, List.length_map]
    exact h3 p hp'
  · obtain ⟨A, C0, rfl, rfl, h2⟩ := List.map_eq_append_iff.1 hs
    obtain ⟨y, C, rfl, rfl, rfl⟩ := List.map_eq_cons_iff.1 h2
    rw [pt_ud, pt_ud, lp_ud, hp_ud, ud_b, ud_p]
    have hen := h.en A y C rfl
    by_cases hy : y = e
    · subst hy
      rw [blk_set _ (blk_set _ hen), cellsE_ud]
      congr 3
      unfold ud; rw [if_pos hk]
    · rw [blk_oth _ (blk_oth _ hen (ne_block h.bn (by simp) hm hy)) (ne_block h.bn (by simp) hm hy)]
      congr 3
      unfold ud
      rw [if_neg]
      intro hk2
      have h4 := fd_of h.kn (e := y) (by simp)
      rw [hk2, he] at h4
      exact hy (Option.some.inj h4).symm
  · rw [List.map_map, show (En.k ∘ ud k v) = En.k from funext fun x => ud_k k v x]; exact h.kn
  · rw [List.map_map, show (En.b ∘ ud k v) = En.b from funext fun x => ud_b k v x]; exact h.bn
  · obtain ⟨y, hy, rfl⟩ := List.mem_map.1 hx
    obtain ⟨h1, h2, h3⟩ := h.pp y hy
    rw [ud_p, ud_k]
    refine ⟨h1, h2, ?_⟩
    unfold ud; split
    · exact hv
    · exact h3

/-- the three boxes of Put -/
structure PBx (w W : World) (v : Int × Int) : Prop where
  x5 : W.heap[w.heap.size]? = some (.cells #[.int .i64 v.1, .int .i64 v.2] 28 (0, 0))
  x6 : W.heap[w.heap.size + 1]? = some (.cells #[.int .i64 0, .int .i64 0] 28 (0, 0))
  x8 : W.heap[w.heap.size + 2]? = some (.cells #[.int .i64 0, .int .i64 0] 28 (0, 0))
  bel : Below w.heap.size w W
theorem PBx.new (w : World) (v : Int × Int) : PBx w (((w.alloc (.cells #[.int .i64 v.1, .int .i64 v.2] 28)).alloc (.cells #[.int .i64 0, .int .i64 0] 28)).alloc (.cells #[.int .i64 0, .int .i64 0] 28)) v :=
  ⟨(heap_alloc_old _ _ (by simp; omega)).trans ((heap_alloc_old _ _ (by simp)).trans (heap_alloc_new _ _ rfl)), (heap_alloc_old _ _ (by simp)).trans (heap_alloc_new _ _ (by simp)), heap_alloc_new _ _ (by simp), (((Below.refl _ _).alloc (Nat.le_refl _) _).alloc (by simp) _).alloc (by simp; omega) _⟩
theorem PBx.kept {w W W' : World} {v : Int × Int} (h : PBx w W v) (hb : Below W.heap.size W W') : PBx w W' v :=
  ⟨(hb.block _ (blk_lt h.x5)).trans h.x5, (hb.block _ (blk_lt h.x6)).trans h.x6, (hb.block _ (blk_lt h.x8)).trans h.x8, h.bel.trans (hb.mono h.bel.size)⟩
theorem DA.noP {w : World} {D M L P : Nat} {hf : Value} {es : List En} (h : DA w D M L hf P es) {x : Nat} {cs : Array Value} (hx : w.heap[x]? = some (.cells cs 28 (0, 0))) : x ≠ D ∧ ¬ Ft M L es x := by
  refine ⟨fun e => ?_, fun hf' => ?_⟩
  · have := h.dc; rw [← e, hx] at this; cases this
  · rcases hf' with rfl | rfl | ⟨e, he, rfl⟩
    · obtain ⟨_, _, h1, _⟩ := h.mp; rw [hx] at h1; cases h1
    · obtain ⟨_, h1, _⟩ := h.ln; rw [hx] at h1; cases h1
    · obtain ⟨_, _, h1⟩ := h.entry he; rw [hx] at h1; cases h1
set_option maxRecDepth 100000 in
set_option maxHeartbeats 1000000 in
theorem put_old (w : World) (D M L P : Nat) (hf : Value) (es : List En) (k : K) (v : Int × Int) (h : DA w D M L hf P es) (hk : KIn k) (e0 : En) (he0 : fd es k = some e0) :
    Calls Try.prog 8 #[ptr D, kv k, vp v] w fun e w' => e = .returned (.tuple #[vp e0.v, .bool true]) ∧ DA w' D M L hf P (es.map (ud k v)) ∧ Fr (Ft M L es) w w' := by
  have HD : Hid (DA w D M L hf P es ∧ KIn k) := ⟨h, hk⟩
  have HE : Hid (fd es k = some e0) := he0
  clear h hk he0
  obtain ⟨W1, hW1⟩ : ∃ W1, W1 = ((w.alloc (.cells #[.int .i64 v.1, .int .i64 v.2] 28)).alloc (.cells #[.int .i64 0, .int .i64 0] 28)).alloc (.cells #[.int .i64 0, .int .i64 0] 28) := ⟨_, rfl⟩
  have HX1 : Hid (PBx w W1 v) := by rw [hW1]; exact PBx.new w v
  go_enter Try.func8, Try.ntmps8
  go_upto_region 2 with fail
  rw [← hW1]
  clear hW1
  go_wp2_with fail
  refine (isKey_any W1 k).mono ?_
  rintro e w2 ⟨rfl, hb2⟩
  have HX2 : Hid (PBx w w2 v) := HX1.out.kept hb2
  have HD2 : Hid (DA w2 D M L hf P es) := HD.out.1.kept HX2.out.bel
  clear hb2 HX1
  obtain ⟨_, c1, _⟩ := HD2.out.cells
  have hl := HD2.out.look HD.out.2
  rw [HE.out] at hl
  obtain ⟨cv0, cv1⟩ := HD2.out.valc (fd_some HE.out).1
  simp only [fp] at hl
  go_upto_region 7 with fail
  clear c1 hl cv0 cv1
  obtain ⟨W3, hW3⟩ : ∃ W3, W3 = w2.alloc (.cells #[.int .i64 e0.v.1, .int .i64 e0.v.2] 28) := ⟨_, rfl⟩
  have hb3 : Below w2.heap.size w2 W3 := by rw [hW3]; exact (Below.refl _ _).alloc (Nat.le_refl _) _
  have HX3 : Hid (PBx w W3 v) := HX2.out.kept hb3
  have HD3 : Hid (DA W3 D M L hf P es) := HD2.out.kept hb3
  have H10 : Hid (W3.heap[w2.heap.size]? = some (.cells #[.int .i64 e0.v.1, .int .i64 e0.v.2] 28 (0, 0))) := by rw [hW3]; exact heap_alloc_new _ _ rfl
  have HB10 : Hid (w.heap.size ≤ w2.heap.size) := HX2.out.bel.size
  rw [← hW3]
  clear hW3 hb3 HX2 HD2
  generalize w2.heap.size = B10 at *
  obtain ⟨x0, x1, _, _⟩ := blk2_cell HX3.out.x5
  obtain ⟨cv0, cv1⟩ := HD3.out.valc (fd_some HE.out).1
  obtain ⟨fv0, fv1⟩ : W3.frozen? ⟨e0.b, 1, none⟩ = false ∧ W3.frozen? ⟨e0.b, 2, none⟩ = false := by
    obtain ⟨x, y, hh⟩ := HD3.out.entry (fd_some HE.out).1
    exact ⟨frozen_of_row _ _ _ _ _ hh, frozen_of_row _ _ _ _ _ hh⟩
  go_upto_region 8 with fail
  clear x0 x1 cv0 cv1 fv0 fv1
  obtain ⟨W4, hW4⟩ : ∃ W4, W4 = (W3.setCell ⟨e0.b, 1, none⟩ (.int .i64 v.1)).setCell ⟨e0.b, 2, none⟩ (.int .i64 v.2) := ⟨_, rfl⟩
  have HD4 : Hid (DA W4 D M L hf P (es.map (ud k v))) := by rw [hW4]; exact HD3.out.upd HE.out v trivial
  have hoth : ∀ x, x ≠ e0.b → W4.heap[x]? = W3.heap[x]? := fun x hx => by rw [hW4]; exact (heap_setCell_other _ _ _ _ hx).trans (heap_setCell_other _ _ _ _ hx)
  have hFe : Ft M L es e0.b := .inr (.inr ⟨e0, (fd_some HE.out).1, rfl⟩)
  have H6 : Hid (W4.heap[w.heap.size + 1]? = some (.cells #[.int .i64 0, .int .i64 0] 28 (0, 0))) := (hoth (w.heap.size + 1) (fun e => (HD3.out.noP HX3.out.x6).2 (by rw [e]; exact hFe))).trans HX3.out.x6
  have H104 : Hid (W4.heap[B10]? = some (.cells #[.int .i64 e0.v.1, .int .i64 e0.v.2] 28 (0, 0))) := (hoth B10 (fun e => (HD3.out.noP H10.out).2 (by rw [e]; exact hFe))).trans H10.out
  have HF4 : Hid (Fr (Ft M L es) w W4) := by
    rw [hW4]
    exact ((Fr.ofBelow (S := Ft M L es) HX3.out.bel).set ⟨e0.b, 1, none⟩ (.int .i64 v.1) (.inr hFe)).set ⟨e0.b, 2, none⟩ (.int .i64 v.2) (.inr hFe)
  rw [← hW4]
  clear hW4 hoth hFe HD3 H10 HX3
  obtain ⟨y0, y1, _, _⟩ := blk2_cell H104.out
  obtain ⟨x0, x1, f0, f1⟩ := blk2_cell H6.out
  have HR := blk2_cell (blk2_set H6.out (.int .i64 e0.v.1) (.int .i64 e0.v.2))
  have HZ : Hid (DA ((W4.setCell ⟨w.heap.size + 1, 0, none⟩ (.int .i64 e0.v.1)).setCell ⟨w.heap.size + 1, 1, none⟩ (.int .i64 e0.v.2)) D M L hf P (es.map (ud k v)) ∧ Fr (Ft M L es) w ((W4.setCell ⟨w.heap.size + 1, 0, none⟩ (.int .i64 e0.v.1)).setCell ⟨w.heap.size + 1, 1, none⟩ (.int .i64 e0.v.2))) := by
    refine ⟨HD4.out.same (fun x hx => ?_), (HF4.out.set ⟨w.heap.size + 1, 0, none⟩ _ (.inl (Nat.le_succ _))).set ⟨w.heap.size + 1, 1, none⟩ _ (.inl (Nat.le_succ _))⟩
    have hne : x ≠ w.heap.size + 1 := fun e => by
      subst e
      obtain ⟨n1, n2⟩ := HD4.out.noP H6.out
      rcases hx with hx | hx
      · exact n1 hx
      · exact n2 hx
    exact (heap_setCell_other _ _ _ _ hne).trans (heap_setCell_other _ _ _ _ hne)
  clear HD4 HF4 H6 H104
  go_wp2
  refine bodyPost_ret (v := .tuple #[vp e0.v, .bool true]) (by simp [results, Try.results8, go_sem, HR.1, HR.2.1]) rfl ?_
  exact ⟨rfl, HZ.out⟩
end Go.Proofs.Ytghfofjpoeckkaa
