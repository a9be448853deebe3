/-
  SOURCE: WHAT A TEXT BEGINS WITH, AT A PLACE.
-/
import Derived.Test.YtlabofafmcbfmaaGreatDoorSrK
namespace Go.Proofs.YtlabofafmcbfmaaGreatDoor
open Go.RowKit Go.Sort Go.Shelf

theorem drop2 {l : List UInt8} {k : Nat} (h : k + 1 < l.length) : l.drop k = l[k] :: l[k + 1] :: l.drop (k + 2) := by
  rw [List.drop_eq_getElem_cons (by omega), List.drop_eq_getElem_cons h]
theorem beq_nat (x y : UInt8) : (x == y) = decide (x.toNat = y.toNat) := by
  by_cases h : x = y
  · subst h; simp
  · have h2 : x.toNat ≠ y.toNat := fun e => h (UInt8.toNat_inj.1 e)
    simp [h, h2]
/-- two signs at a place -/
theorem pre_at {l : List UInt8} {k : Nat} (h : k + 1 < l.length) (x y : UInt8) : [x, y].isPrefixOf (l.drop k) = (decide (x.toNat = l[k].toNat) && decide (y.toNat = l[k + 1].toNat)) := by
  rw [drop2 h]
  simp [List.isPrefixOf, beq_nat]
theorem pre_ne1 {l : List UInt8} {k : Nat} (h : k + 1 < l.length) (x y : UInt8) (hy : l[k + 1].toNat ≠ y.toNat) : [x, y].isPrefixOf (l.drop k) = false := by
  rw [pre_at h]
  rw [decide_eq_false (fun e => hy (Eq.symm e))]
  simp
theorem pre_end {l : List UInt8} {k : Nat} (h : l.length ≤ k + 1) (x y : UInt8) : [x, y].isPrefixOf (l.drop k) = false := by
  by_cases h0 : k < l.length
  · have h1 : l.drop (k + 1) = [] := List.drop_eq_nil_of_le h
    rw [List.drop_eq_getElem_cons h0, h1]
    simp [List.isPrefixOf]
  · rw [List.drop_eq_nil_of_le (by omega)]
    rfl
/-- a line's comment -/
theorem gap_line {l : List UInt8} {k j : Nat} (h : k + 1 < l.length) (h0 : l[k].toNat = 47) (h1 : l[k + 1].toNat = 47) (hkj : k ≤ j) (hj : j ≤ l.length) (ha : ∀ i (hi : i < l.length), k ≤ i → i < j → l[i].toNat ≠ 10) (hb : ∀ hi : j < l.length, l[j].toNat = 10) : KL (l.drop k) = (j - k) + KL (l.drop j) := by
  have hg : gapL (l.drop k) = j - k := by
    unfold gapL
    rw [if_pos (by rw [pre_at h]; simp [h0, h1])]
    refine frB_of nlC (l.drop k) (j - k) (by simp; omega) (fun i hi hlt => ?_) (fun hi => ?_)
    · simp only [List.length_drop] at hi
      have := ha (k + i) (by omega) (by omega) (by omega)
      simp only [List.getElem_drop, nlC]
      simp [this]
    · simp only [List.length_drop] at hi
      have e : k + (j - k) = j := by omega
      have := hb (by omega)
      simp only [List.getElem_drop, nlC, e]
      simp [this]
  have hjk : j ≠ k := by
    intro e
    subst e
    have := hb (by omega)
    omega
  have := KL_go (l := l.drop k) (by omega)
  rw [hg, List.drop_drop] at this
  rw [this, show k + (j - k) = j by omega]
theorem occ_at {l : List UInt8} {k : Nat} (m : Nat) (h : k + m + 1 < l.length) : Lib.occAt (l.drop k) [42, 47] m = (decide (l[k + m].toNat = 42) && decide (l[k + m + 1].toNat = 47)) := by
  unfold Lib.occAt
  rw [List.drop_drop, pre_at h]
  congr 1 <;> exact decide_eq_decide.2 ⟨fun e => e.symm, fun e => e.symm⟩
/-- a comment that ends -/
theorem gap_block {l : List UInt8} {k j : Nat} (h : k + 1 < l.length) (h0 : l[k].toNat = 47) (h1 : l[k + 1].toNat = 42) (hkj : k + 2 ≤ j) (hj : j + 1 < l.length) (hno : Lib.NoOcc (l.drop (k + 2)) [42, 47] (j - (k + 2))) (hj0 : l[j].toNat = 42) (hj1 : l[j + 1].toNat = 47) : KL (l.drop k) = (j + 2 - k) + KL (l.drop (j + 2)) := by
  have hix : Lib.index (l.drop (k + 2)) [42, 47] = ((j - (k + 2) : Nat) : Int) := Lib.index_hit hno (by simp; omega) (by
    have e : k + 2 + (j - (k + 2)) = j := by omega
    rw [occ_at (k := k + 2) (j - (k + 2)) (by omega)]
    simp only [e]
    simp [hj0, hj1])
  have hg : gapL (l.drop k) = j + 2 - k := by
    unfold gapL
    rw [if_neg (by rw [pre_at h]; simp [h1]), if_pos (by rw [pre_at h]; simp [h0, h1]), List.drop_drop, hix, if_neg (by omega)]
    omega
  have := KL_go (l := l.drop k) (by omega)
  rw [hg, List.drop_drop] at this
  rw [this, show k + (j + 2 - k) = j + 2 by omega]
/-- a comment that never ends -/
theorem gap_open {l : List UInt8} {k j : Nat} (h : k + 1 < l.length) (h0 : l[k].toNat = 47) (h1 : l[k + 1].toNat = 42) (hkj : k + 2 ≤ j) (hj : l.length ≤ j + 1) (hno : Lib.NoOcc (l.drop (k + 2)) [42, 47] (j - (k + 2))) : KL (l.drop k) = 0 ∧ [47, 42].isPrefixOf (l.drop k) = true := by
  have hix : Lib.index (l.drop (k + 2)) [42, 47] = -1 := Lib.index_past (by simp) hno (by simp; omega)
  refine ⟨KL_stop ?_, by rw [pre_at h]; simp [h0, h1]⟩
  unfold gapL
  rw [if_neg (by rw [pre_at h]; simp [h1]), if_pos (by rw [pre_at h]; simp [h0, h1]), List.drop_drop, hix]
  simp
end Go.Proofs.YtlabofafmcbfmaaGreatDoor
