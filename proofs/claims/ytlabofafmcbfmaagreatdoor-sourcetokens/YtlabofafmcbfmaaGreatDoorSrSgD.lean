/-
  SOURCE: the document's sign.
-/
import Derived.Test.YtlabofafmcbfmaaGreatDoorSrTA
import Derived.Test.YtlabofafmcbfmaaGreatDoorSrOver
namespace Go.Proofs.YtlabofafmcbfmaaGreatDoor
open Go.RowKit Go.Sort Go.Shelf

def sg28 : List (List UInt8) := [[61, 61], [33, 61], [60, 61], [62, 61], [60, 60], [62, 62], [38, 38], [124, 124], [61], [60], [62], [43], [45], [42], [47], [37], [38], [124], [94], [33], [63], [58], [59], [44], [40], [41], [123], [125]]
theorem sg28_len {i : Nat} (hi : i < 28) : sg28[i]!.length = 1 ∨ sg28[i]!.length = 2 := by
  have hl : i < sg28.length := hi
  rw [getElem!_pos sg28 i hl]
  have : ∀ p ∈ sg28, p.length = 1 ∨ p.length = 2 := by decide
  exact this _ (List.getElem_mem hl)
theorem sg28_kind {i : Nat} (hi : i < 28) : (i < 8 ∧ sg28[i]! = pairL[i]!) ∨ (8 ≤ i ∧ ∃ c, sg28[i]! = [c] ∧ shortL.contains c = true) := by
  have key : ∀ i : Fin 28, (i.val < 8 ∧ sg28[i.val]! = pairL[i.val]!) ∨ (8 ≤ i.val ∧ sg28[i.val]!.length = 1 ∧ (sg28[i.val]!).all (fun c => shortL.contains c) = true) := by decide
  rcases key ⟨i, hi⟩ with h | ⟨h1, h2, h3⟩
  · exact .inl h
  · obtain ⟨c, hc⟩ := List.length_eq_one_iff.1 h2
    simp only at hc h3
    rw [hc] at h3
    exact .inr ⟨h1, c, hc, by simpa using h3⟩
/-- the first of the signs that fits is the sign -/
theorem sgD_hit {l : List UInt8} {i : Nat} (hi : i < 28) (h : sg28[i]!.isPrefixOf l = true) (hb : ∀ j, j < i → sg28[j]!.isPrefixOf l = false) : l.take (sgN l) = sg28[i]! := by
  rcases sg28_kind hi with ⟨h1, h2⟩ | ⟨h1, c, h2, h3⟩
  · rw [h2] at h ⊢
    have h4 := sgN_hit h1 h
    rw [h4.1]
    exact h4.2
  · have hm : ∀ j, j < 8 → pairL[j]!.isPrefixOf l = false := fun j hj => by
      rcases sg28_kind (show j < 28 by omega) with ⟨_, h5⟩ | ⟨h5, _⟩
      · rw [← h5]; exact hb j (by omega)
      · omega
    rw [h2] at h ⊢
    obtain ⟨r, hr⟩ := List.isPrefixOf_iff_prefix.1 h
    have hr2 : l = c :: r := by rw [← hr]; rfl
    rw [sgN_miss hm, hr2]
    unfold shN
    simp only [h3, if_true]
    rfl
theorem sgD_short {c : UInt8} (h : shortL.contains c = true) : c.toNat = 91 ∨ c.toNat = 93 ∨ ∃ i, i < 28 ∧ sg28[i]! = [c] := by
  have key : ∀ x ∈ shortL, x.toNat = 91 ∨ x.toNat = 93 ∨ (sg28.any (fun p => p == [x])) = true := by decide
  rcases key c (List.contains_iff_mem.1 h) with h1 | h1 | h1
  · exact .inl h1
  · exact .inr (.inl h1)
  · obtain ⟨p, hp, h2⟩ := List.any_eq_true.1 h1
    obtain ⟨i, hi, rfl⟩ := List.getElem_of_mem hp
    refine .inr (.inr ⟨i, hi, ?_⟩)
    rw [getElem!_pos sg28 i hi]
    exact beq_iff_eq.1 h2
theorem sgD_miss {c : UInt8} {r : List UInt8} (hb : ∀ j, j < 28 → sg28[j]!.isPrefixOf (c :: r) = false) : (c :: r).take (sgN (c :: r)) = if c.toNat = 91 ∨ c.toNat = 93 then [c] else [] := by
  have hm : ∀ j, j < 8 → pairL[j]!.isPrefixOf (c :: r) = false := fun j hj => by
    rcases sg28_kind (show j < 28 by omega) with ⟨_, h5⟩ | ⟨h5, _⟩
    · rw [← h5]; exact hb j (by omega)
    · omega
  rw [sgN_miss hm]
  unfold shN
  simp only
  by_cases h : c.toNat = 91 ∨ c.toNat = 93
  · have h2 : shortL.contains c = true := by
      rcases h with h | h
      · have : c = 91 := UInt8.toNat_inj.1 h
        subst this; decide
      · have : c = 93 := UInt8.toNat_inj.1 h
        subst this; decide
    rw [if_pos h2, if_pos h]
    rfl
  · have h2 : shortL.contains c = false := by
      cases hc : shortL.contains c with
      | false => rfl
      | true =>
        exfalso
        rcases sgD_short hc with h1 | h1 | ⟨i, hi, h1⟩
        · exact h (.inl h1)
        · exact h (.inr h1)
        · have := hb i hi
          rw [h1] at this
          simp [List.isPrefixOf] at this
    rw [h2, if_neg h]
    rfl
theorem pre_take {p l : List UInt8} : p.isPrefixOf l = decide (l.take p.length = p) := by
  cases h : p.isPrefixOf l with
  | true =>
    obtain ⟨r, hr⟩ := List.isPrefixOf_iff_prefix.1 h
    rw [← hr, List.take_left]
    simp
  | false =>
    symm
    rw [decide_eq_false_iff_not]
    intro e
    have : p <+: l := by rw [← e]; exact List.take_prefix _ _
    rw [List.isPrefixOf_iff_prefix.2 this] at h
    cases h
end Go.Proofs.YtlabofafmcbfmaaGreatDoor
