/-
  THE WALKS OF slices.BinarySearchFunc AND Find.
-/
import Derived.Test.YtbmohlkcmhhpgaaGreatKRises
namespace Go.Proofs.YtbmohlkcmhhpgaaGreat
open Go.RowKit Go.Sort

/-- how many are below a key -/
def cnt (L : List K) (k : K) : Nat := (L.filter fun x => lt x k).length
theorem cnt_eq {L : List K} {k : K} {i : Nat} (hi : i ≤ L.length) (h1 : ∀ x, x < i → lt (kd L x) k = true) (h2 : ∀ x, i ≤ x → x < L.length → lt (kd L x) k = false) : cnt L k = i := by
  have e : L.filter (fun x => lt x k) = L.take i := by
    have hs := List.take_append_drop i L
    have ht : (L.take i).filter (fun x => lt x k) = L.take i := by
      rw [List.filter_eq_self]
      intro a ha
      obtain ⟨j, hj, he⟩ := List.mem_iff_getElem.1 ha
      have hj' : j < i := by simp at hj; omega
      have := h1 j hj'
      rw [List.getElem_take] at he
      have hg := kd_get (L := L) (j := j) (by simp at hj; omega)
      rw [List.getElem?_eq_getElem (by simp at hj; omega), Option.some.injEq, he] at hg
      rw [hg]; exact this
    have hd : (L.drop i).filter (fun x => lt x k) = [] := by
      rw [List.filter_eq_nil_iff]
      intro a ha
      obtain ⟨j, hj, he⟩ := List.mem_iff_getElem.1 ha
      have hjl : i + j < L.length := by simp at hj; omega
      have := h2 (i + j) (by omega) hjl
      rw [List.getElem_drop] at he
      have hg := kd_get hjl
      rw [List.getElem?_eq_getElem hjl, Option.some.injEq, he] at hg
      rw [hg, this]; decide
    calc L.filter (fun x => lt x k) = (L.take i ++ L.drop i).filter (fun x => lt x k) := by rw [hs]
      _ = L.take i := by rw [List.filter_append, ht, hd, List.append_nil]
  unfold cnt
  rw [e, List.length_take]; omega
theorem mem_at {L : List K} {k : K} {i : Nat} (hi : i ≤ L.length) (h1 : ∀ x, x < i → lt (kd L x) k = true) (h2 : ∀ x, i ≤ x → x < L.length → lt (kd L x) k = false) (hr : Rise L) : k ∈ L ↔ i < L.length ∧ kd L i = k := by
  constructor
  · intro hk
    obtain ⟨j, hj, he⟩ := List.mem_iff_getElem.1 hk
    have hg := kd_get hj
    rw [List.getElem?_eq_getElem hj, Option.some.injEq, he] at hg
    have hij : i ≤ j := by
      rcases Nat.lt_or_ge j i with h | h
      · have := h1 j h; rw [← hg, lt_irrefl] at this; cases this
      · exact h
    by_cases hij2 : i = j
    · subst hij2; exact ⟨hj, hg.symm⟩
    · have := rise_pair (i := i) (j := j) (by omega) hj hr
      rw [← hg, h2 i (Nat.le_refl _) (by omega)] at this; cases this
  · rintro ⟨h, rfl⟩; exact kd_mem h

/-- what Find answers -/
def findN (L : List K) (k : K) : Nat := if Rise L then cnt L k else 0
def findB (L : List K) (k : K) : Bool := decide (Rise L) && decide (k ∈ L)
end Go.Proofs.YtbmohlkcmhhpgaaGreat
