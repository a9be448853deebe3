/-
  A SIGN's BYTES.
-/
import Derived.Test.YtlabofafmcbfmaaGreatDoorAMath
import Derived.Laws.RangeAny
namespace Go.Proofs.YtlabofafmcbfmaaGreatDoor
open Go.RowKit

theorem dec_bytes (s : ByteArray) (pos : Nat) (h : pos < s.size) (ha : 128 ≤ (s.get! pos).toNat) : pos + (Utf8.decode s pos).2 ≤ s.size ∧ ∀ i, i < (Utf8.decode s pos).2 → 128 ≤ (s.get! (pos + i)).toNat := by
  unfold Utf8.decode
  simp only [Nat.add_zero]
  rw [if_neg (by omega)]
  have one : ∀ i, i < 1 → 128 ≤ (s.get! (pos + i)).toNat := fun i hi => by rw [show i = 0 by omega]; exact ha
  split
  · next h1 =>
    simp only [Bool.and_eq_true, beq_iff_eq, decide_eq_true_eq] at h1
    split
    · refine ⟨by show pos + 2 ≤ _; omega, fun i hi => ?_⟩
      have hi' : i < 2 := hi
      rcases (show i = 0 ∨ i = 1 by omega) with rfl | rfl
      · exact ha
      · omega
    · exact ⟨by show pos + 1 ≤ _; omega, one⟩
  · split
    · next h1 =>
      simp only [Bool.and_eq_true, beq_iff_eq, decide_eq_true_eq] at h1
      split
      · refine ⟨by show pos + 3 ≤ _; omega, fun i hi => ?_⟩
        have hi' : i < 3 := hi
        rcases (show i = 0 ∨ i = 1 ∨ i = 2 by omega) with rfl | rfl | rfl
        · exact ha
        · omega
        · omega
      · exact ⟨by show pos + 1 ≤ _; omega, one⟩
    · split
      · next h1 =>
        simp only [Bool.and_eq_true, beq_iff_eq, decide_eq_true_eq] at h1
        split
        · refine ⟨by show pos + 4 ≤ _; omega, fun i hi => ?_⟩
          have hi' : i < 4 := hi
          rcases (show i = 0 ∨ i = 1 ∨ i = 2 ∨ i = 3 by omega) with rfl | rfl | rfl | rfl
          · exact ha
          · omega
          · omega
          · omega
        · exact ⟨by show pos + 1 ≤ _; omega, one⟩
      · exact ⟨by show pos + 1 ≤ _; omega, one⟩
/-- what a text's sign is, for the split -/
theorem sign_at (l : List UInt8) (s : ByteArray) (hs : s.data.toList = l ++ [10]) (pos : Nat) (h : pos < s.size) :
    (byteAt l pos < 128 ∧ Utf8.decode s pos = (byteAt l pos, 1)) ∨ (128 ≤ byteAt l pos ∧ 128 ≤ (Utf8.decode s pos).1 ∧ 1 ≤ (Utf8.decode s pos).2 ∧ pos + (Utf8.decode s pos).2 ≤ s.size ∧ scRun l (pos + (Utf8.decode s pos).2) = scStep l (scRun l pos) pos (Utf8.decode s pos).1) := by
  have hlen : s.size = (l ++ [10]).length := by rw [← hs]; exact Array.length_toList.symm
  have hb : ∀ i, i < s.size → (s.get! i).toNat = byteAt l i := fun i hi => by
    have : s.data.toList[i]? = some (s.get! i) := by
      have hi' : i < s.data.size := hi
      rw [Array.getElem?_toList, Array.getElem?_eq_getElem hi']
      congr 1
      show _ = s.data[i]!
      rw [getElem!_pos s.data i hi']
    unfold byteAt
    rw [← hs, List.getD_eq_getElem?_getD, this]; rfl
  have hg : (s[pos]'h) = s.get! pos := by
    show s.data[pos] = s.data[pos]!
    rw [getElem!_pos s.data pos h]
  by_cases hc : byteAt l pos < 128
  · left
    refine ⟨hc, ?_⟩
    have := decode_ascii s pos h (by rw [hg, hb pos h]; exact hc)
    rw [this, hg, hb pos h]
  · right
    have hc' : 128 ≤ byteAt l pos := by omega
    obtain ⟨d1, d2⟩ := decode_high s pos h (by rw [hg, hb pos h]; exact hc')
    obtain ⟨e1, e2⟩ := dec_bytes s pos h (by rw [hb pos h]; exact hc')
    refine ⟨hc', d1, d2, e1, ?_⟩
    obtain ⟨j, hj⟩ : ∃ j, (Utf8.decode s pos).2 = j + 1 := ⟨(Utf8.decode s pos).2 - 1, by omega⟩
    rw [hj]
    rw [scRun_sign l pos j (fun i hi => by have := e2 i (by omega); rw [hb (pos + i) (by omega)] at this; exact this)]
    exact scStep_like l _ pos hc' d1
end Go.Proofs.YtlabofafmcbfmaaGreatDoor
