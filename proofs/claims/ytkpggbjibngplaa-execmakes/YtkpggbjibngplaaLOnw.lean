/-
  THE WALKS OF onward, fits, withinLimits, look.
-/
import Derived.Test.YtkpggbjibngplaaLSmall
namespace Go.Proofs.Ytkpggbjibngplaa
open Go.RowKit Go.Sort

/-- what onward answers -/
def onw (i : Nat) (op a : Int) : Int × Int × Int := if op = 0 ∨ op = 36 then (0, 0, 0) else if op = 31 then ((i : Int) + 1, a, 2) else if op = 30 then (a, 0, 1) else ((i : Int) + 1, 0, 1)
theorem onw_kinds (op : Int) : (op = 0 ∨ op = 36) ∨ op = 31 ∨ op = 30 ∨ (op ≠ 0 ∧ op ≠ 36 ∧ op ≠ 31 ∧ op ≠ 30) := by omega
def tripleV (x : Int × Int × Int) : Value := .tuple #[.agg #[.int .i64 x.1, .int .i64 x.2.1], .int .i64 x.2.2]
theorem below_set {w w1 : World} {B : Nat} (h : Below B w w1) (a : Addr) (v : Value) (ha : B ≤ a.block) : Below B w (w1.setCell a v) :=
  ⟨h.os, h.tape, h.output, by simpa using h.size, fun k hk => (heap_setCell_other w1 a k v (by omega)).trans (h.block k hk)⟩

set_option maxHeartbeats 1000000 in
theorem onward_any (w : World) (op a : Int) (i : Nat) (hi : i ≤ 1000000) :
    Calls Try.prog 47 #[.agg #[.int .i64 op, .int .i64 a], .int .i64 (i : Int)] w fun e w' => e = .returned (tripleV (onw i op a)) ∧ Below w.heap.size w w' := by
  have HE : Hid (∀ x, onw i op a = x → tripleV (onw i op a) = tripleV x) := fun x h => by rw [h]
  rcases onw_kinds op with h | h | h | h
  · rcases h with rfl | rfl <;>
    (go_enter Try.func47, Try.ntmps47
     go_wp2
     refine bodyPost_ret (v := .tuple #[.agg #[.int .i64 0, .int .i64 0], .int .i64 0]) (by simp [results, Try.results47, go_sem]) rfl ?_
     refine ⟨by rw [HE.out (0, 0, 0) (by simp [onw])]; rfl, ?_⟩
     repeat (first | exact Below.refl _ _ | refine below_set ?_ _ _ (by simp <;> omega) | refine Below.alloc ?_ (by simp <;> omega) _))
  · subst h
    go_enter Try.func47, Try.ntmps47
    go_wp2
    refine bodyPost_ret (v := .tuple #[.agg #[.int .i64 ((i : Int) + 1), .int .i64 a], .int .i64 2]) (by simp [results, Try.results47, go_sem]) rfl ?_
    refine ⟨by rw [HE.out ((i : Int) + 1, a, 2) (by simp [onw])]; rfl, ?_⟩
    repeat (first | exact Below.refl _ _ | refine below_set ?_ _ _ (by simp <;> omega) | refine Below.alloc ?_ (by simp <;> omega) _)
  · subst h
    go_enter Try.func47, Try.ntmps47
    go_wp2
    refine bodyPost_ret (v := .tuple #[.agg #[.int .i64 a, .int .i64 0], .int .i64 1]) (by simp [results, Try.results47, go_sem]) rfl ?_
    refine ⟨by rw [HE.out (a, 0, 1) (by simp [onw])]; rfl, ?_⟩
    repeat (first | exact Below.refl _ _ | refine below_set ?_ _ _ (by simp <;> omega) | refine Below.alloc ?_ (by simp <;> omega) _)
  · obtain ⟨h1, h2, h3, h4⟩ := h
    go_enter Try.func47, Try.ntmps47
    go_wp2
    refine bodyPost_ret (v := .tuple #[.agg #[.int .i64 ((i : Int) + 1), .int .i64 0], .int .i64 1]) (by simp [results, Try.results47, go_sem]) rfl ?_
    refine ⟨by rw [HE.out ((i : Int) + 1, 0, 1) (by simp [onw, h1, h2, h3, h4])]; rfl, ?_⟩
    repeat (first | exact Below.refl _ _ | refine below_set ?_ _ _ (by simp <;> omega) | refine Below.alloc ?_ (by simp <;> omega) _)

end Go.Proofs.Ytkpggbjibngplaa
