/-
  THE WALKS OF isOp, takes, leaves, onward.
-/
import Derived.Test.YtkpggbjibngplaaLList
namespace Go.Proofs.Ytkpggbjibngplaa
open Go.RowKit Go.Sort

theorem isOp_any (w : World) (op : Int) :
    Calls Try.prog 42 #[.int .i64 op] w fun e w' => e = .returned (.bool (isOpB op)) ∧ w' = w := by
  have HE : Hid (∀ b : Bool, isOpB op = b → isOpB op = b) := fun b h => h
  go_enter Try.func42, Try.ntmps42
  by_cases h0 : 0 ≤ op
  · by_cases h1 : op < 37
    · go_wp2
      go_ret
      exact ⟨by rw [HE.out true (by simp [isOpB]; omega)]; rfl, rfl⟩
    · have h1' : decide (op < 37) = false := by simpa using h1
      go_wp2
      go_ret
      exact ⟨by rw [HE.out false (by simp [isOpB]; omega)]; rfl, rfl⟩
  · have h0' : decide (0 ≤ op) = false := by simpa using h0
    go_wp2
    go_ret
    exact ⟨by rw [HE.out false (by simp [isOpB]; omega)]; rfl, rfl⟩

set_option maxHeartbeats 2000000 in
theorem takes_any (w : World) (op : Int) (h : isOpB op = true) :
    Calls Try.prog 45 #[.int .i64 op] w fun e w' => e = .returned (.int .i64 (takesN op)) ∧ w' = w := by
  rcases op_cases h with rfl | rfl | rfl | rfl | rfl | rfl | rfl | rfl | rfl | rfl | rfl | rfl | rfl | rfl | rfl | rfl | rfl | rfl | rfl | rfl | rfl | rfl | rfl | rfl | rfl | rfl | rfl | rfl | rfl | rfl | rfl | rfl | rfl | rfl | rfl | rfl | rfl <;> clear h <;>
  (go_enter Try.func45, Try.ntmps45
   go_wp2
   go_ret
   exact ⟨rfl, rfl⟩)

set_option maxHeartbeats 2000000 in
theorem leaves_any (w : World) (op : Int) (h : isOpB op = true) :
    Calls Try.prog 46 #[.int .i64 op] w fun e w' => e = .returned (.int .i64 (leavesN op)) ∧ w' = w := by
  rcases op_cases h with rfl | rfl | rfl | rfl | rfl | rfl | rfl | rfl | rfl | rfl | rfl | rfl | rfl | rfl | rfl | rfl | rfl | rfl | rfl | rfl | rfl | rfl | rfl | rfl | rfl | rfl | rfl | rfl | rfl | rfl | rfl | rfl | rfl | rfl | rfl | rfl | rfl <;> clear h <;>
  (go_enter Try.func46, Try.ntmps46
   go_wp2
   go_ret
   exact ⟨rfl, rfl⟩)

end Go.Proofs.Ytkpggbjibngplaa
