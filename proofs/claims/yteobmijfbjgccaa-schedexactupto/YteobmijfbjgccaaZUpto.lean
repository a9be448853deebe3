/-
  CHORES AND SCRIPTS OF SMALL BULK ARE WITHIN REACH.
-/
import Derived.Test.YteobmijfbjgccaaWtUpto
import Derived.Test.YteobmijfbjgccaaOpenZ
namespace Go.Proofs.Yteobmijfbjgccaa
open Go.ChangeShapes Go.WideShapes Go.ChangeAt Go.RowKit

def SZt (t : TypeId) : Prop := t = 22 ∨ t = 47 ∨ t = 3 ∨ t = 23 ∨ t = 24 ∨ t = 33
theorem shutZ : Shut Try.prog SZt 100 := by
  refine ⟨by omega, ?_, ?_, ?_, ?_, ?_, ?_⟩
  · rintro t (rfl | rfl | rfl | rfl | rfl | rfl) <;> exact of_decide_eq_true (by kernel_rfl)
  · rintro t e (rfl | rfl | rfl | rfl | rfl | rfl) h
    · rw [Try.underlying22] at h; simp at h
    · rw [Try.underlying47] at h; simp at h
    · rw [Try.underlying3] at h; simp at h
    · rw [Try.underlying23] at h; simp at h
    · rw [Try.underlying24] at h; simp at h
    · rw [Try.underlying33] at h; simp at h
  · rintro t e (rfl | rfl | rfl | rfl | rfl | rfl) h
    · rw [Try.underlying22] at h; simp at h; subst h; simp [SZt]
    · rw [Try.underlying47] at h; simp at h
    · rw [Try.underlying3] at h; simp at h
    · rw [Try.underlying23] at h; simp at h; subst h; simp [SZt]
    · rw [Try.underlying24] at h; simp at h; subst h; simp [SZt]
    · rw [Try.underlying33] at h; simp at h
  · rintro t n e (rfl | rfl | rfl | rfl | rfl | rfl) h
    · rw [Try.underlying22] at h; simp at h
    · rw [Try.underlying47] at h; simp at h
    · rw [Try.underlying3] at h; simp at h
    · rw [Try.underlying23] at h; simp at h
    · rw [Try.underlying24] at h; simp at h
    · rw [Try.underlying33] at h; simp at h
  · rintro t fs (rfl | rfl | rfl | rfl | rfl | rfl) h
    · rw [Try.underlying22] at h; simp at h
    · rw [Try.underlying47] at h; simp at h; subst h; intro x hx; simp at hx; (first | (rcases hx with rfl | rfl | rfl) | (rcases hx with rfl | rfl)) <;> simp [SZt]
    · rw [Try.underlying3] at h; simp at h
    · rw [Try.underlying23] at h; simp at h
    · rw [Try.underlying24] at h; simp at h
    · rw [Try.underlying33] at h; simp at h; subst h; intro x hx; simp at hx; (first | (rcases hx with rfl | rfl | rfl) | (rcases hx with rfl | rfl)) <;> simp [SZt]
  · rintro t k e (rfl | rfl | rfl | rfl | rfl | rfl) h
    · rw [Try.underlying22] at h; simp at h
    · rw [Try.underlying47] at h; simp at h
    · rw [Try.underlying3] at h; simp at h
    · rw [Try.underlying23] at h; simp at h
    · rw [Try.underlying24] at h; simp at h
    · rw [Try.underlying33] at h; simp at h
theorem makes_reach {H : Type} {d : DataW H} (hb : Rows.uptoBulk d ≤ 1048576) : ∀ z ∈ d.weights Try.prog 22, z ≤ reachBytes := reach_of shutZ (by omega) (.inl rfl) hb
theorem ops_reach {H : Type} {d : DataW H} (hb : Rows.uptoBulk d ≤ 1048576) : ∀ z ∈ d.weights Try.prog 24, z ≤ reachBytes := reach_of shutZ (by omega) (.inr (.inr (.inr (.inr (.inl rfl))))) hb
theorem ints_bulk {H : Type} {enc : TypeId × Value → H} {W : World} {fuel : Nat} {a : Option Addr} {len cap : Nat} {y : DataW H × List MemPlace} (hf : DataW.trod enc Try.prog W 0 (fun _ => true) true fuel 23 [.slice a len cap] = some y) : len + 1 ≤ Rows.uptoBulk y.1 := by
  rcases Deep.open_slice Try.underlying23 hf with ⟨h1, rfl⟩ | ⟨a', len', cap', m, n, D, Pl, h1, hb, hl, hm, hmm, rfl, hx⟩
  · simp at h1
    obtain ⟨_, rfl, _⟩ := h1
    exact bulk_bytes (.inl rfl)
  · simp at h1
    obtain ⟨_, rfl, _⟩ := h1
    exact bulk_bytes (.inr ⟨_, _, rfl, by simp⟩)
end Go.Proofs.Yteobmijfbjgccaa
