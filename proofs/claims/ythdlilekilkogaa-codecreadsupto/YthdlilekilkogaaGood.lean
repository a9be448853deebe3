/-
  WHAT IS READ AND WRITTEN AGAIN: the bytes so far.
-/
import Derived.Test.YthdlilekilkogaaRBytes
import Derived.Test.YthdlilekilkogaaREnd
namespace Go.Proofs.Ythdlilekilkogaa
open Go.RowKit

def Good (b : List Nat) (k p : Nat) (e : Int) (L : List Nat) : Prop := (e = 0 → L = b.take p) ∧ L.length ≤ b.length + k ∧ p ≤ b.length

theorem uint_zero : uint 10 0 = [0] := rfl

theorem good_byte {b : List Nat} {k p : Nat} {e : Int} {L : List Nat} (h : Good b k p e L) : Good b (k + 1) (rdByte b p e).2.1 (rdByte b p e).2.2 (L ++ [(rdByte b p e).1]) := by
  obtain ⟨h1, h2, h3⟩ := h
  unfold rdByte
  split
  · rename_i he
    exact ⟨fun h => absurd h he, by simp; omega, h3⟩
  · rename_i he
    have he : e = 0 := Decidable.not_not.1 he
    split
    · exact ⟨fun h => by simp at h, by simp; omega, h3⟩
    · have hl : p < b.length := by omega
      refine ⟨fun _ => ?_, ?_, hl⟩
      · rw [h1 he, take_snoc b p hl]
      · simp; omega

theorem take_add' (b : List Nat) (p k : Nat) : b.take p ++ (b.drop p).take k = b.take (p + k) := by rw [List.take_add]

theorem good_upto {b : List Nat} (hz : ∀ z ∈ b, z < 256) {k p : Nat} {e : Int} {L : List Nat} (most : Nat) (h : Good b k p e L) : Good b (k + 1) (rdUpto b p e most).2.1 (rdUpto b p e most).2.2 (L ++ uint 10 (rdUpto b p e most).1) := by
  obtain ⟨h1, h2, h3⟩ := h
  unfold rdUpto
  split
  · rename_i he
    exact ⟨fun h => absurd h he, by rw [uint_zero]; simp; omega, h3⟩
  · rename_i he
    have he : e = 0 := Decidable.not_not.1 he
    split
    · rename_i hs
      exact ⟨fun h => by simp at h; exact absurd h hs, by rw [uint_zero]; simp; omega, h3⟩
    · rename_i hs
      have hs : (scan (b.drop p)).2.2 = 0 := Decidable.not_not.1 hs
      have h4 := scan_one (b.drop p) (scan (b.drop p)).1 (scan (b.drop p)).2.1 (fun z hz' => hz z (List.mem_of_mem_drop hz')) (by rw [← hs])
      split
      · exact ⟨fun h => by simp at h, by rw [uint_zero]; simp; omega, h3⟩
      · have h5 := h4.2.2.1
        rw [List.length_drop] at h5
        have e1 : L ++ uint 10 (scan (b.drop p)).1 = b.take (p + (scan (b.drop p)).2.1) := by rw [← h4.2.2.2, h1 he, take_add']
        refine ⟨fun _ => e1, ?_, by show p + _ ≤ _; omega⟩
        show (L ++ uint 10 (scan (b.drop p)).1).length ≤ _
        rw [e1, List.length_take]
        omega

theorem fold_unfold (n : Nat) (_h : n < 18446744073709551616) : fold (unfold n) = n := by
  unfold unfold fold
  split <;> split <;> omega
theorem unfold_range (n : Nat) (h : n < 18446744073709551616) : -9223372036854775808 ≤ unfold n ∧ unfold n ≤ 9223372036854775807 := by
  unfold unfold
  split <;> omega

theorem good_raw {b : List Nat} {k p : Nat} {e : Int} {L : List Nat} (n : Int) (h : Good b k p e L) : Good b (k + 1) (rdRaw b p e n).2.1 (rdRaw b p e n).2.2 (L ++ (rdRaw b p e n).1) := by
  obtain ⟨h1, h2, h3⟩ := h
  unfold rdRaw
  split
  · rename_i he
    exact ⟨fun h => absurd h he, by simp; omega, h3⟩
  · rename_i he
    have he : e = 0 := Decidable.not_not.1 he
    split
    · exact ⟨fun h => by simp at h, by simp; omega, h3⟩
    · split
      · exact ⟨fun h => by simp at h, by simp; omega, h3⟩
      · have e1 : L ++ (b.drop p).take n.toNat = b.take (p + n.toNat) := by rw [h1 he, take_add']
        refine ⟨fun _ => e1, ?_, by show p + _ ≤ _; omega⟩
        show (L ++ (b.drop p).take n.toNat).length ≤ _
        rw [e1, List.length_take]
        omega
theorem rdRaw_length (b : List Nat) (p : Nat) (e n : Int) : (rdRaw b p e n).1.length ≤ b.length := by
  unfold rdRaw
  split
  · simp
  · split
    · simp
    · split
      · simp
      · simp; omega

theorem rdRaw_ok (b : List Nat) (p n : Nat) (h : n ≤ b.length - p) : rdRaw b p 0 (n : Int) = ((b.drop p).take n, p + n, 0) := by
  unfold rdRaw
  rw [if_neg (by simp), if_neg (by omega), if_neg (by omega)]
  rfl

theorem good_bytes {b : List Nat} (hz : ∀ z ∈ b, z < 256) {k p : Nat} {e : Int} {L : List Nat} (most : Int) (h : Good b k p e L) :
    Good b (k + 1) (rdBytes b p e most).2.1 (rdBytes b p e most).2.2 (L ++ (uint 10 (rdBytes b p e most).1.length ++ (rdBytes b p e most).1)) := by
  obtain ⟨h1, h2, h3⟩ := h
  unfold rdBytes
  split
  · rename_i he
    exact ⟨fun h => absurd h he, by rw [List.length_nil, uint_zero]; simp; omega, h3⟩
  · rename_i he
    have he : e = 0 := Decidable.not_not.1 he
    split
    · rename_i hs
      exact ⟨fun h => by simp at h; exact absurd h hs, by rw [List.length_nil, uint_zero]; simp; omega, h3⟩
    · rename_i hs
      have hs : (scan (b.drop p)).2.2 = 0 := Decidable.not_not.1 hs
      have h4 := scan_one (b.drop p) (scan (b.drop p)).1 (scan (b.drop p)).2.1 (fun z hz' => hz z (List.mem_of_mem_drop hz')) (by rw [← hs])
      split
      · exact ⟨fun h => by simp at h, by rw [List.length_nil, uint_zero]; simp; omega, h3⟩
      · split
        · exact ⟨fun h => by simp at h, by rw [List.length_nil, uint_zero]; simp; omega, h3⟩
        · rename_i h6
          have h5 := h4.2.2.1
          rw [List.length_drop] at h5
          rw [rdRaw_ok b _ _ (by omega)]
          generalize (scan (b.drop p)).1 = n at *
          generalize (scan (b.drop p)).2.1 = q at *
          have e0 : ((b.drop (p + q)).take n).length = n := by rw [List.length_take, List.length_drop]; omega
          have e1 : L ++ (uint 10 ((b.drop (p + q)).take n).length ++ (b.drop (p + q)).take n) = b.take (p + q + n) := by
            rw [e0, ← h4.2.2.2, h1 he, ← List.append_assoc, take_add', take_add']
          refine ⟨fun _ => e1, ?_, by show p + q + n ≤ _; omega⟩
          show (L ++ (uint 10 ((b.drop (p + q)).take n).length ++ (b.drop (p + q)).take n)).length ≤ _
          rw [e1, List.length_take]
          omega
theorem rdBytes_length (b : List Nat) (p : Nat) (e most : Int) : (rdBytes b p e most).1.length ≤ b.length := by
  unfold rdBytes
  split
  · simp
  · split
    · simp
    · split
      · simp
      · split
        · simp
        · exact rdRaw_length _ _ _ _

theorem good_end {b : List Nat} {k p : Nat} {e : Int} {L : List Nat} (h : Good b k p e L) (h0 : rdEnd b p e = 0) : L = b := by
  obtain ⟨h1, h2, h3⟩ := h
  unfold rdEnd at h0
  split at h0
  · simp at h0
  · rename_i hn
    subst h0
    have : p = b.length := by omega
    rw [h1 rfl, this, List.take_length]

end Go.Proofs.Ythdlilekilkogaa
