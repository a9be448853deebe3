/-
  THE WALK OF after.
-/
import Derived.Test.YtjmlogljfboleabLLook
namespace Go.Proofs.Ytjmlogljfboleab
open Go.RowKit Go.Sort

set_option maxHeartbeats 4000000 in
theorem after_any (w : World) (op n : Int) (h : isOpB op = true) (hn : 0 ≤ n ∧ n ≤ 32) (h1 : takesN op ≤ n) (h2 : n - takesN op + leavesN op ≤ 32) :
    Calls Try.prog 26 #[.int .i64 op, .int .i64 n] w fun e w' => e = .returned (.int .i64 (n - takesN op + leavesN op)) ∧ w' = w := by
  obtain ⟨n0, n1⟩ := hn
  rcases op_cases h with rfl | rfl | rfl | rfl | rfl | rfl | rfl | rfl | rfl | rfl | rfl | rfl | rfl | rfl | rfl | rfl | rfl | rfl | rfl | rfl | rfl | rfl | rfl | rfl | rfl | rfl | rfl | rfl | rfl | rfl | rfl | rfl | rfl | rfl | rfl | rfl | rfl <;> clear h <;>
  (simp only [takesN, leavesN, tkL, lvL, Int.toNat, List.getD_cons_zero, List.getD_cons_succ] at h1 h2 ⊢
   go_enter Try.func26, Try.ntmps26
   go_wp2
   go_ret
   exact ⟨by first | rfl | (show Ending.returned (.int .i64 _) = Ending.returned (.int .i64 _); congr 2; omega), rfl⟩)
end Go.Proofs.Ytjmlogljfboleab
