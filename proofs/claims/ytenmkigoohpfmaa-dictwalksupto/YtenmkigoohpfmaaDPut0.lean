/-
  Put OF A KEY THAT IS THERE.
-/
import Derived.Test.YtenmkigoohpfmaaDLink
namespace Go.Proofs.Ytenmkigoohpfmaa
open Go.RowKit Go.Sort

def ud (k : K) (v : Int) (e : En) : En := if e.k = k then { e with v := v } else e
theorem ud_b (k : K) (v : Int) (e : En) : (ud k v e).b = e.b := by unfold ud; split <;> rfl
theorem ud_k (k : K) (v : Int) (e : En) : (ud k v e).k = e.k := by unfold ud; split <;> rfl
theorem ud_p (k : K) (v : Int) (e : En) : (ud k v e).p = e.p := by unfold ud; split <;> rfl
theorem hp_ud (k : K) (v : Int) (l : List En) : hp (l.map (ud k v)) = hp l := by
  cases l with
  | nil => rfl
  | cons e l => simp [hp, ud_b]
theorem lp_ud (k : K) (v : Int) (l : List En) : lp (l.map (ud k v)) = lp l := by
  unfold lp
  rw [List.getLast?_map]
  cases l.getLast? with
  | none => rfl
  | some e => simp [ud_b]
theorem pt_ud (k : K) (v : Int) (p : Nat) (l : List En) : pt p (l.map (ud k v)) = (pt p l).map (ud k v) := by
  unfold pt
  rw [List.filter_map]
  congr 1
  apply List.filter_congr
  intro x _
  simp [ud_p]
theorem cellsE_ud (e : En) (v : Int) (x y : Value) : (cellsE e x y).setIfInBounds 2 (.int .i64 v) = cellsE { e with v := v } x y := by simp [cellsE]
theorem DA.upd {w : World} {D M L P : Nat} {hf : Value} {es : List En} (h : DA w D M L hf P es) {k : K} {e : En} (he : fd es k = some e) (v : Int) (hv : In64 v) : DA (w.setCell ⟨e.b, 2, none⟩ (.int .i64 v)) D M L hf P (es.map (ud k v)) := by
  obtain ⟨hm, hk⟩ := fd_some he
  obtain ⟨x0, y0, hb0⟩ := h.entry hm
  have nD : D ≠ e.b := fun e' => by have := h.dc; rw [e', hb0] at this; cases this
  have nM : M ≠ e.b := fun e' => by obtain ⟨ms, c, h1, _⟩ := h.mp; rw [e', hb0] at h1; cases h1
  have nL : L ≠ e.b := fun e' => by obtain ⟨C, h1, _⟩ := h.ln; rw [e', hb0] at h1; cases h1
  refine ⟨blk_oth _ h.dc nD, ?_, ?_, fun A' x C' hs => ?_, ?_, ?_, fun x hx => ?_, h.P0⟩
  · obtain ⟨ms, c, h1, h2⟩ := h.mp
    refine ⟨ms, c, blk_oth _ h1 nM, h2.trans ?_⟩
    rw [List.map_map]
    apply List.map_congr_left
    intro x _
    simp [ud_k, ud_b]
  · obtain ⟨C, h1, h2, h3⟩ := h.ln
    refine ⟨C, blk_oth _ h1 nL, h2, fun p hp' => ?_⟩
    rw [pt_ud, hp_ud, lp_ud, List.length_map]
    exact h3 p hp'
  · obtain ⟨A, C0, rfl, rfl, h2⟩ := List.map_eq_append_iff.1 hs
    obtain ⟨y, C, rfl, rfl, rfl⟩ := List.map_eq_cons_iff.1 h2
    rw [pt_ud, pt_ud, lp_ud, hp_ud, ud_b, ud_p]
    have hen := h.en A y C rfl
    by_cases hy : y = e
    · subst hy
      rw [blk_set _ hen, cellsE_ud]
      congr 3
      unfold ud; rw [if_pos hk]
    · rw [blk_oth _ hen (ne_block h.bn (by simp) hm hy)]
      congr 3
      unfold ud
      rw [if_neg]
      intro hk2
      have h4 := fd_of h.kn (e := y) (by simp)
      rw [hk2, he] at h4
      exact hy (Option.some.inj h4).symm
  · rw [List.map_map, show (En.k ∘ ud k v) = En.k from funext fun x => ud_k k v x]; exact h.kn
  · rw [List.map_map, show (En.b ∘ ud k v) = En.b from funext fun x => ud_b k v x]; exact h.bn
  · obtain ⟨y, hy, rfl⟩ := List.mem_map.1 hx
    obtain ⟨h1, h2, h3⟩ := h.pp y hy
    rw [ud_p, ud_k]
    refine ⟨h1, h2, ?_⟩
    unfold ud; split
    · exact hv
    · exact h3

set_option maxRecDepth 100000 in
set_option maxHeartbeats 1000000 in
theorem put_old (w : World) (D M L P : Nat) (hf : Value) (es : List En) (k : K) (v : Int) (h : DA w D M L hf P es) (hk : KIn k) (hv : In64 v) (e0 : En) (he0 : fd es k = some e0) :
    Calls Try.prog 5 #[ptr D, kv k, .int .i64 v] w fun e w' => e = .returned (.tuple #[.int .i64 e0.v, .bool true]) ∧ DA w' D M L hf P (es.map (ud k v)) ∧ Fr (Ft M L es) w w' := by
  have HD : Hid (DA w D M L hf P es ∧ KIn k ∧ In64 v) := ⟨h, hk, hv⟩
  have HE : Hid (fd es k = some e0) := he0
  clear h hk hv he0
  obtain ⟨k1, k2⟩ := k
  go_enter Try.func5, Try.ntmps5
  go_wp2_with fail
  have HB1 : Hid (Below w.heap.size w (w.alloc (.cells #[.int .i64 k1, .int .i64 k2] 28))) := (Below.refl _ _).alloc (Nat.le_refl _) _
  have HX1 : Hid ((w.alloc (.cells #[.int .i64 k1, .int .i64 k2] 28)).heap[w.heap.size]? = some (.cells #[.int .i64 k1, .int .i64 k2] 28 (0, 0))) := heap_alloc_new _ _ rfl
  generalize w.alloc (.cells #[.int .i64 k1, .int .i64 k2] 28) = W1 at *
  refine (isKey_any W1 (k1, k2)).mono ?_
  rintro e w2 ⟨rfl, hb2⟩
  have HB2 : Hid (Below w.heap.size w w2) := HB1.out.trans (hb2.mono HB1.out.size)
  have HX2 : Hid (w2.heap[w.heap.size]? = some (.cells #[.int .i64 k1, .int .i64 k2] 28 (0, 0))) := (hb2.block _ (blk_lt HX1.out)).trans HX1.out
  have HD2 : Hid (DA w2 D M L hf P es) := HD.out.1.kept HB2.out
  clear hb2 HB1 HX1
  obtain ⟨_, c1, _⟩ := HD2.out.cells
  have b0 : w2.cell? ⟨w.heap.size, 0, none⟩ = some (.int .i64 k1) := by rw [World.cell?, HX2.out]; rfl
  have b1 : w2.cell? ⟨w.heap.size, 1, none⟩ = some (.int .i64 k2) := by rw [World.cell?, HX2.out]; rfl
  have hl := HD2.out.lookN HD.out.2.1
  rw [HE.out] at hl
  have cv := HD2.out.valc (fd_some HE.out).1
  have fv : w2.frozen? ⟨e0.b, 2, none⟩ = false := by
    obtain ⟨x, y, hh⟩ := HD2.out.entry (fd_some HE.out).1
    exact frozen_of_row _ _ _ _ _ hh
  simp only [fp] at hl
  go_wp2_with fail
  go_quiet (fail)
  have HF : Hid (DA ((w2.setCell ⟨e0.b, 2, none⟩ (.int .i64 v)).drewN nq) D M L hf P (es.map (ud (k1, k2) v)) ∧ Fr (Ft M L es) w ((w2.setCell ⟨e0.b, 2, none⟩ (.int .i64 v)).drewN nq)) := by
    refine ⟨(HD2.out.upd HE.out v HD.out.2.2).same (fun _ _ => rfl), ?_⟩
    have h1 := (Fr.ofBelow (S := Ft M L es) HB2.out).set ⟨e0.b, 2, none⟩ (.int .i64 v) (.inr (.inr (.inr ⟨e0, (fd_some HE.out).1, rfl⟩)))
    exact ⟨h1.os, h1.tape, h1.output, h1.size, h1.block⟩
  go_wp2
  go_ret2
  exact ⟨rfl, HF.out⟩
end Go.Proofs.Ytenmkigoohpfmaa
