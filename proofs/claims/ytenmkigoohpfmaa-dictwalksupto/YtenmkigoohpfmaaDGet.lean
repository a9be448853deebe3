/-
  Get, line, Len, Size, Part.
-/
import Derived.Test.YtenmkigoohpfmaaDSmall
namespace Go.Proofs.Ytenmkigoohpfmaa
open Go.RowKit Go.Sort

def vv : Option En → Int
  | none => 0
  | some e => e.v
theorem DA.valc {w : World} {D M L P : Nat} {hf : Value} {es : List En} (h : DA w D M L hf P es) {e : En} (he : e ∈ es) : w.cell? ⟨e.b, 2, none⟩ = some (.int .i64 e.v) := by
  obtain ⟨x, y, h1⟩ := h.entry he
  rw [World.cell?, h1]; rfl

theorem hp_ptr (l : List En) : ∃ o, hp l = .pointer o := by cases l with | nil => exact ⟨_, rfl⟩ | cons e l => exact ⟨_, rfl⟩
theorem lp_ptr (l : List En) : ∃ o, lp l = .pointer o := by
  unfold lp
  split <;> exact ⟨_, rfl⟩
/-- a partition's, none if there is no such one -/
def ptI (P : Nat) (p : Int) (es : List En) : List En := if 0 ≤ p ∧ p < P then pt p.toNat es else []
theorem DA.linec {w : World} {D M L P : Nat} {hf : Value} {es : List En} (h : DA w D M L hf P es) {p : Nat} (hp0 : p < P) : w.cell? ⟨L, p * 3, none⟩ = some (hp (pt p es)) ∧ w.cell? ⟨L, p * 3 + 1, none⟩ = some (lp (pt p es)) ∧ w.cell? ⟨L, p * 3 + 2, none⟩ = some (.int .i64 ((pt p es).length : Int)) := by
  obtain ⟨C, h1, _, h2⟩ := h.ln
  obtain ⟨a, b, c⟩ := h2 p hp0
  rw [Nat.mul_comm] at a b c
  refine ⟨?_, ?_, ?_⟩ <;> rw [World.cell?, h1]
  · exact a
  · exact b
  · exact c
set_option maxRecDepth 100000 in
set_option maxHeartbeats 1000000 in
theorem line_any (w : World) (D M L P : Nat) (hf : Value) (es : List En) (p : Int) (h : DA w D M L hf P es) :
    Calls Try.prog 16 #[ptr D, .int .i64 p] w fun e w' => e = .returned (.agg #[hp (ptI P p es), lp (ptI P p es), .int .i64 ((ptI P p es).length : Int)]) ∧ Below w.heap.size w w' := by
  have HB1 : Hid (Below w.heap.size w (w.alloc (.cells #[.pointer none, .pointer none, .int .i64 0] 52))) := (Below.refl _ _).alloc (Nat.le_refl _) _
  have HD : Hid (DA (w.alloc (.cells #[.pointer none, .pointer none, .int .i64 0] 52)) D M L hf P es) := h.kept HB1.out
  obtain ⟨_, _, c2⟩ := HD.out.cells
  clear h
  go_enter Try.func16, Try.ntmps16
  by_cases h0 : p < 0
  · have e1 : ptI P p es = [] := by unfold ptI; rw [if_neg (by omega)]
    rw [e1]
    go_wp2
    refine bodyPost_ret (v := .agg #[.pointer none, .pointer none, .int .i64 0]) (by simp [results, Try.results16, go_sem]) rfl ?_
    exact ⟨rfl, HB1.out⟩
  · by_cases h1 : p < P
    · obtain ⟨q, rfl⟩ : ∃ q : Nat, p = (q : Int) := ⟨p.toNat, by omega⟩
      obtain ⟨l1, l2, l3⟩ := HD.out.linec (p := q) (by omega)
      have e1 : ptI P (q : Int) es = pt q es := by unfold ptI; rw [if_pos ⟨by omega, h1⟩]; rfl
      rw [e1]
      have HB2 : ∀ u, Hid (Below w.heap.size w (w.alloc (.cells u 52))) := fun u => (Below.refl _ _).alloc (Nat.le_refl _) _
      obtain ⟨v1, hv1⟩ := hp_ptr (pt q es)
      obtain ⟨v2, hv2⟩ := lp_ptr (pt q es)
      rw [hv1] at l1 ⊢
      rw [hv2] at l2 ⊢
      generalize (pt q es).length = v3 at *
      clear hv1 hv2
      go_wp2
      refine bodyPost_ret (v := .agg #[.pointer v1, .pointer v2, .int .i64 v3]) (by simp [results, Try.results16, go_sem]) rfl ?_
      exact ⟨rfl, (HB2 _).out⟩
    · have e1 : ptI P p es = [] := by unfold ptI; rw [if_neg (by omega)]
      rw [e1]
      go_wp2
      refine bodyPost_ret (v := .agg #[.pointer none, .pointer none, .int .i64 0]) (by simp [results, Try.results16, go_sem]) rfl ?_
      exact ⟨rfl, HB1.out⟩

theorem DA.len {w : World} {D M L P : Nat} {hf : Value} {es : List En} (h : DA w D M L hf P es) (ty : TypeId) : (Builtin.len_ #[42] ty #[.map (some M)]).run Try.prog w = .ok (.int .i64 (es.length : Int)) w := by
  obtain ⟨ms, c, h1, h2⟩ := h.mp
  have e1 : ms.size = es.length := by have := congrArg List.length h2; simpa using this
  simp [Builtin.len_, run_underlying Try.underlying42, MapKept.run_getObj_map h1, goInt, Result.andThen, e1]
set_option maxRecDepth 100000 in
set_option maxHeartbeats 1000000 in
theorem len_any (w : World) (D M L P : Nat) (hf : Value) (es : List En) (h : DA w D M L hf P es) :
    Calls Try.prog 8 #[ptr D] w fun e w' => e = .returned (.int .i64 (es.length : Int)) ∧ w' = w := by
  obtain ⟨_, c1, _⟩ := h.cells
  have hl := h.len
  clear h
  go_enter Try.func8, Try.ntmps8
  go_wp2
  go_ret
  exact ⟨rfl, rfl⟩
end Go.Proofs.Ytenmkigoohpfmaa
