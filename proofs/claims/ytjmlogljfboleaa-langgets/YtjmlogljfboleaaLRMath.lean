/-
  HOW THE DOCUMENT READS AN INSTRUCTION: it stops at the first error, and its step is the code's.
-/
import Derived.Test.YtjmlogljfboleaaLGet2
namespace Go.Proofs.Ytjmlogljfboleaa
open Go.RowKit Go.Sort

theorem rdByte_err (b : List Nat) (p : Nat) {e : Int} (h : e ≠ 0) : rdByte b p e = (0, p, e) := by unfold rdByte; rw [if_pos h]
theorem rdUpto_err (b : List Nat) (p : Nat) {e : Int} (most : Nat) (h : e ≠ 0) : rdUpto b p e most = (0, p, e) := by unfold rdUpto; rw [if_pos h]
theorem failE_err {e : Int} (x : Int) (h : e ≠ 0) : failE e x = e := by unfold failE; rw [if_neg h]
theorem unfold_zero : unfold 0 = 0 := by unfold unfold; simp
theorem getI_err (b : List Nat) (p : Nat) {e : Int} (h : e ≠ 0) : (getI b p e).2 = (p, e) := by
  unfold getI
  rw [rdByte_err b p h]
  have h2 : getE2 0 e = e := by unfold getE2; split; exact failE_err 31 h; rfl
  simp only [h2]
  unfold getT
  rw [if_neg (by decide)]
theorem getL_stuck (b : List Nat) (p : Nat) (e : Int) (k : Nat) (h : (getL b p e k).2.2 ≠ 0) : ∀ m, (getL b p e (k + m)).2 = (getL b p e k).2
  | 0 => rfl
  | m + 1 => by
    have ih := getL_stuck b p e k h m
    have h' : (getL b p e (k + m)).2.2 ≠ 0 := by rw [ih]; exact h
    show ((getI b (getL b p e (k + m)).2.1 (getL b p e (k + m)).2.2).2.1, (getI b (getL b p e (k + m)).2.1 (getL b p e (k + m)).2.2).2.2) = _
    rw [getI_err b _ h', ih]
theorem getL_stop (b : List Nat) (p : Nat) (e : Int) (k n : Nat) (hk : k ≤ n) (h : (getL b p e k).2.2 ≠ 0) : (getL b p e n).2 = (getL b p e k).2 := by
  obtain ⟨m, rfl⟩ := Nat.exists_eq_add_of_le hk
  exact getL_stuck b p e k h m
/-- the error behind an instruction's byte, in the document's words -/
theorem getE2_doc (z : Nat) (e : Int) : getE2 z e = if e = 0 ∧ (128 ≤ z ∨ 37 ≤ z % 64) then 31 else e := by
  have h1 : (isOpB ((z : Int) % 64) = false) ↔ 37 ≤ z % 64 := by
    unfold isOpB
    simp only [Bool.and_eq_false_iff, decide_eq_false_iff_not]
    omega
  unfold getE2 failE
  by_cases he : e = 0 <;> by_cases h2 : 128 ≤ z <;> by_cases h3 : 37 ≤ z % 64 <;> simp [he, h1, h2, h3]
/-- what follows the byte, in the document's words: e is the error behind the byte -/
theorem getT_doc (b : List Nat) (z p : Nat) (e : Int) (hz : 128 ≤ z → e ≠ 0) : getT b z p e = if 64 ≤ z then (((z : Int) % 64, unfold (rdUpto b p e 18446744073709551615).1), (rdUpto b p e 18446744073709551615).2.1, if (rdUpto b p e 18446744073709551615).2.2 = 0 ∧ unfold (rdUpto b p e 18446744073709551615).1 = 0 then 11 else (rdUpto b p e 18446744073709551615).2.2) else (((z : Int) % 64, 0), p, e) := by
  unfold getT
  by_cases h1 : 128 ≤ z
  · have he := hz h1
    rw [rdUpto_err b p _ he, if_pos (show 64 ≤ z by omega)]
    simp [unfold_zero, he, failE_err 11 he]
  · by_cases h2 : 64 ≤ z
    · rw [if_pos (show z / 64 % 2 = 1 by omega), if_pos h2]
      generalize rdUpto b p e 18446744073709551615 = u
      by_cases h3 : unfold u.1 = 0
      · rw [if_pos h3]
        unfold failE
        by_cases h4 : u.2.2 = 0
        · rw [if_pos h4, if_pos ⟨h4, h3⟩]
        · rw [if_neg h4, if_neg (fun h => h4 h.1)]
      · rw [if_neg h3, if_neg (fun h => h3 h.2)]
    · rw [if_neg (show ¬ z / 64 % 2 = 1 by omega), if_neg h2]
end Go.Proofs.Ytjmlogljfboleaa
