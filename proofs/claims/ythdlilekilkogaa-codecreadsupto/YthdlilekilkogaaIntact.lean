/-
  THE WALK OF intact.
-/
import Derived.Test.YthdlilekilkogaaSame
namespace Go.Proofs.Ythdlilekilkogaa
open Go.RowKit

/-- intact: a roomy copy as it was. -/
theorem intact_any (w : World) (b : Nat) (bo : Option Addr) (cf cb n : Nat) (ys : List Nat) (hnb : n = ys.length) (hy : BytesAt w bo ys) (hm : ys.length + 3 ≤ maxLen)
    (hf : ∀ j, j < ys.length + 3 → w.cell? ⟨b, j, none⟩ = some (.int .u8 (((ys ++ [171, 171, 171]).getD j 0 : Nat) : Int))) (hcap : ys.length + 3 ≤ cf) :
    Calls Try.prog 16 #[.slice (some ⟨b, 0, none⟩) (n + 3) cf, .slice bo n cb] w fun e w' => e = .returned (.bool true) ∧ ∃ n, w' = w.drewN n := by
  subst hnb
  have hmax : ys.length + 3 ≤ maxLen := hm
  unfold maxLen at hm
  have hpre : BytesAt w (some ⟨b, 0, none⟩) ys := by
    refine ⟨hy.1, .inr ⟨b, 0, rfl, fun j hj => ?_⟩⟩
    have h := hf j (by omega)
    rw [getD_left _ _ _ hj] at h
    simpa using h
  have hcl : (ys.length : Int) ≤ (cf : Int) := by omega
  have HS : Hid (Calls Try.prog 10 #[.slice (some ⟨b, 0, none⟩) ys.length cf, .slice bo ys.length cb] w fun e w' => e = .returned (.bool (decide (ys = ys))) ∧ ∃ n, w' = w.drewN n) :=
    same_any w (some ⟨b, 0, none⟩) bo cf cb ys.length ys.length ys ys rfl rfl hpre hy (by unfold maxLen; omega)
  clear hy hpre hmax
  go_enter Try.func16, Try.ntmps16
  go_wp2
  go_loop [5] (fun i => ∃ k : Nat, ys.length ≤ k ∧ k ≤ ys.length + 3 ∧ i = .int .i64 k) (fun i => ys.length + 3 - (intOf i).toNat)
  case atStart => exact ⟨ys.length, by omega, by omega, rfl⟩
  case round =>
    obtain ⟨k, hk1, hk2, rfl⟩ := hrel
    by_cases hlt : k < ys.length + 3
    · have hcell := hf k hlt
      have e : (ys ++ [171, 171, 171]).getD k 0 = 171 := by
        rw [getD_right _ _ _ hk1]
        obtain h | h | h : k - ys.length = 0 ∨ k - ys.length = 1 ∨ k - ys.length = 2 := by omega
        all_goals rw [h]; rfl
      rw [e] at hcell
      clear hf e
      go_wp2
      go_round
      case rel => exact ⟨k + 1, by omega, by omega, by go_num⟩
      case measure => simp [intOf]; omega
    · clear hf
      go_wp2_with fail
      refine HS.out.mono ?_
      rintro e w1 ⟨rfl, hw1⟩
      go_wp2
      go_ret
      exact ⟨by simp, hw1⟩

end Go.Proofs.Ythdlilekilkogaa
