import Derived.Test.YtkjmeknaedapjaaDoorK01
/-
  THE WALKS OF isOp, takes, leaves, onward.
-/
namespace Go.Proofs.YtkjmeknaedapjaaDoor
open Go.RowKit Go.Sort

theorem isOp_any (w : World) (op : Int) :
    Calls Tryd.prog 56 #[.int .i64 op] w fun e w' => e = .returned (.bool (isOpB op)) ∧ w' = w := by
  have HE : Hid (∀ b : Bool, isOpB op = b → isOpB op = b) := fun b h => h
  go_enter Tryd.func56, Tryd.ntmps56
  by_cases h0 : 0 ≤ op
  · by_cases h1 : op < 37
    · go_wp2
      go_ret
      exact ⟨by rw [HE.out true (by simp [isOpB]; omega)]; rfl, rfl⟩
    · have h1' : decide (op < 37) = false := by simpa using h1
      go_wp2
      go_ret
      exact ⟨by rw [HE.out false (by simp [isOpB]; omega)]; rfl, rfl⟩
  · have h0' : decide (0 ≤ op) = false := by simpa using h0
    go_wp2
    go_ret
    exact ⟨by rw [HE.out false (by simp [isOpB]; omega)]; rfl, rfl⟩

set_option maxHeartbeats 2000000 in
theorem takes_any (w : World) (op : Int) (h : isOpB op = true) :
    Calls Tryd.prog 105 #[.int .i64 op] w fun e w' => e = .returned (.int .i64 (takesN op)) ∧ w' = w := by
  rcases op_cases h with rfl | rfl | rfl | rfl | rfl | rfl | rfl | rfl | rfl | rfl | rfl | rfl | rfl | rfl | rfl | rfl | rfl | rfl | rfl | rfl | rfl | rfl | rfl | rfl | rfl | rfl | rfl | rfl | rfl | rfl | rfl | rfl | rfl | rfl | rfl | rfl | rfl <;> clear h <;>
  (go_enter Tryd.func105, Tryd.ntmps105
   go_wp2
   go_ret
   exact ⟨rfl, rfl⟩)

set_option maxHeartbeats 2000000 in
theorem leaves_any (w : World) (op : Int) (h : isOpB op = true) :
    Calls Tryd.prog 106 #[.int .i64 op] w fun e w' => e = .returned (.int .i64 (leavesN op)) ∧ w' = w := by
  rcases op_cases h with rfl | rfl | rfl | rfl | rfl | rfl | rfl | rfl | rfl | rfl | rfl | rfl | rfl | rfl | rfl | rfl | rfl | rfl | rfl | rfl | rfl | rfl | rfl | rfl | rfl | rfl | rfl | rfl | rfl | rfl | rfl | rfl | rfl | rfl | rfl | rfl | rfl <;> clear h <;>
  (go_enter Tryd.func106, Tryd.ntmps106
   go_wp2
   go_ret
   exact ⟨rfl, rfl⟩)

end Go.Proofs.YtkjmeknaedapjaaDoor
