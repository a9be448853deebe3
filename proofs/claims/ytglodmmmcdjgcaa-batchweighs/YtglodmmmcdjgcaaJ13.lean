import Derived.Test.YtglodmmmcdjgcaaJ10
import Derived.Test.YtglodmmmcdjgcaaJ12
import Derived.Test.YtglodmmmcdjgcaaJ11
/-
  THE WALKS OF slices.BinarySearchFunc AND Find.
-/
namespace Go.Proofs.Ytglodmmmcdjgcaa.Kk
open Go.RowKit Go.Sort

/-- how many are below a key -/
def cnt (L : List K) (k : K) : Nat := (L.filter fun x => lt x k).length
theorem cnt_eq {L : List K} {k : K} {i : Nat} (hi : i ≤ L.length) (h1 : ∀ x, x < i → lt (kd L x) k = true) (h2 : ∀ x, i ≤ x → x < L.length → lt (kd L x) k = false) : cnt L k = i := by
  have e : L.filter (fun x => lt x k) = L.take i := by
    have hs := List.take_append_drop i L
    have ht : (L.take i).filter (fun x => lt x k) = L.take i := by
      rw [List.filter_eq_self]
      intro a ha
      obtain ⟨j, hj, he⟩ := List.mem_iff_getElem.1 ha
      have hj' : j < i := by simp at hj; omega
      have := h1 j hj'
      rw [List.getElem_take] at he
      have hg := kd_get (L := L) (j := j) (by simp at hj; omega)
      rw [List.getElem?_eq_getElem (by simp at hj; omega), Option.some.injEq, he] at hg
      rw [hg]; exact this
    have hd : (L.drop i).filter (fun x => lt x k) = [] := by
      rw [List.filter_eq_nil_iff]
      intro a ha
      obtain ⟨j, hj, he⟩ := List.mem_iff_getElem.1 ha
      have hjl : i + j < L.length := by simp at hj; omega
      have := h2 (i + j) (by omega) hjl
      rw [List.getElem_drop] at he
      have hg := kd_get hjl
      rw [List.getElem?_eq_getElem hjl, Option.some.injEq, he] at hg
      rw [hg, this]; decide
    calc L.filter (fun x => lt x k) = (L.take i ++ L.drop i).filter (fun x => lt x k) := by rw [hs]
      _ = L.take i := by rw [List.filter_append, ht, hd, List.append_nil]
  unfold cnt
  rw [e, List.length_take]; omega
theorem mem_at {L : List K} {k : K} {i : Nat} (hi : i ≤ L.length) (h1 : ∀ x, x < i → lt (kd L x) k = true) (h2 : ∀ x, i ≤ x → x < L.length → lt (kd L x) k = false) (hr : Rise L) : k ∈ L ↔ i < L.length ∧ kd L i = k := by
  constructor
  · intro hk
    obtain ⟨j, hj, he⟩ := List.mem_iff_getElem.1 hk
    have hg := kd_get hj
    rw [List.getElem?_eq_getElem hj, Option.some.injEq, he] at hg
    have hij : i ≤ j := by
      rcases Nat.lt_or_ge j i with h | h
      · have := h1 j h; rw [← hg, lt_irrefl] at this; cases this
      · exact h
    by_cases hij2 : i = j
    · subst hij2; exact ⟨hj, hg.symm⟩
    · have := rise_pair (i := i) (j := j) (by omega) hj hr
      rw [← hg, h2 i (Nat.le_refl _) (by omega)] at this; cases this
  · rintro ⟨h, rfl⟩; exact kd_mem h


/-- what Find answers -/
def findN (L : List K) (k : K) : Nat := if Rise L then cnt L k else 0
def findB (L : List K) (k : K) : Bool := decide (Rise L) && decide (k ∈ L)

end Go.Proofs.Ytglodmmmcdjgcaa.Kk
/-
  THE WALKS OF THE DOCUMENT's all, Rises, Has.
-/
namespace Go.Proofs.Ytglodmmmcdjgcaa.Kk
open Go.RowKit Go.Sort


end Go.Proofs.Ytglodmmmcdjgcaa.Kk
/-
  THE WALKS OF THE DOCUMENT's Rises, Has, Find.
-/
namespace Go.Proofs.Ytglodmmmcdjgcaa.Kk
open Go.RowKit Go.Sort

def RisesTo (b : Bool) (L : List K) (k : Nat) : Prop := b = true ↔ (L.all isKey = true ∧ Rise (L.take k))
theorem RisesTo.start (L : List K) : RisesTo (L.all isKey) L 1 := by
  unfold RisesTo
  constructor
  · intro h
    refine ⟨h, ?_⟩
    cases L with
    | nil => exact rise_nil
    | cons a L => exact ⟨by simp at h; simpa using h.1, by simp⟩
  · exact fun h => h.1
theorem RisesTo.no {L : List K} {k : Nat} (h : RisesTo false L k) : RisesTo false L (k + 1) := by
  unfold RisesTo at *
  constructor
  · intro e; cases e
  · rintro ⟨h1, h2⟩
    refine h.2 ⟨h1, ?_⟩
    have := h2.take k
    rwa [List.take_take, Nat.min_eq_left (by omega)] at this
theorem RisesTo.step {L : List K} {j : Nat} (hk : j + 1 < L.length) (h : RisesTo true L (j + 1)) : RisesTo (lt (kd L j) (kd L (j + 1))) L (j + 1 + 1) := by
  unfold RisesTo at *
  obtain ⟨h1, h2⟩ := h.1 rfl
  constructor
  · intro e
    exact ⟨h1, rise_next hk h2 ((List.all_eq_true.1 h1) _ (kd_mem hk)) (fun i hi => by rw [show i = j by omega]; exact e)⟩
  · rintro ⟨_, h3⟩
    have := rise_pair (L := L.take (j + 1 + 1)) (i := j) (j := j + 1) (by omega) (by simp; omega) h3
    have e : ∀ i, i < j + 1 + 1 → kd (L.take (j + 1 + 1)) i = kd L i := fun i hi => by
      unfold kd; rw [List.getD_eq_getElem?_getD, List.getD_eq_getElem?_getD, List.getElem?_take, if_pos hi]
    rwa [e j (by omega), e (j + 1) (by omega)] at this
theorem RisesTo.all {b : Bool} {L : List K} {k : Nat} (h : RisesTo b L k) (hk : L.length ≤ k) : b = decide (Rise L) := by
  unfold RisesTo at h
  rw [List.take_of_length_le hk] at h
  cases b with
  | true => exact (decide_eq_true (h.1 rfl).2).symm
  | false => exact (decide_eq_false (fun hr => by have := h.2 ⟨List.all_eq_true.2 hr.1, hr⟩; cases this)).symm



end Go.Proofs.Ytglodmmmcdjgcaa.Kk
