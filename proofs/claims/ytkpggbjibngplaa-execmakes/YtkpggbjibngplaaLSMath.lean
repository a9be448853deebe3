/-
  DEPTHS: what the search keeps.
-/
import Derived.Test.YtkpggbjibngplaaLRepeat
import Derived.Test.YtkpggbjibngplaaLLook
import Derived.Deep.RegionLaw
namespace Go.Proofs.Ytkpggbjibngplaa
open Go.RowKit Go.Sort

/-- instructions that were looked over -/
def Sane (L : List K) : Prop := ∀ i, i < L.length → isOpB (cd L i).1 = true ∧ (jumpB (cd L i).1 = true → (i : Int) < (cd L i).2 ∧ (cd L i).2 ≤ (L.length : Int))
theorem sane_of {p : Nums} {L : List K} (h : lookAll p L L.length = 0) : Sane L := by
  intro i hi
  have h1 := firstE_zero h i hi
  simp only [lookN] at h1
  cases ho : isOpB (cd L i).1 with
  | false => rw [if_pos ho] at h1; simp at h1
  | true =>
    rw [if_neg (by simp [ho])] at h1
    refine ⟨rfl, fun hj => ?_⟩
    by_cases hc : (cd L i).2 ≤ (i : Int) ∨ (L.length : Int) < (cd L i).2
    · rw [if_pos ⟨hj, hc⟩] at h1; simp at h1
    · omega
theorem next_lt {L : List K} (h : Sane L) {i : Nat} (hi : i < L.length) : ∀ t ∈ nextN i (cd L i).1 (cd L i).2, i < t ∧ t ≤ L.length := by
  obtain ⟨h1, h2⟩ := h i hi
  intro t ht
  unfold nextN at ht
  by_cases c1 : (cd L i).1 = 0 ∨ (cd L i).1 = 36
  · rw [if_pos c1] at ht; simp at ht
  · rw [if_neg c1] at ht
    by_cases c2 : (cd L i).1 = 31
    · have h3 := h2 (by simp [jumpB, c2])
      rw [if_pos c2] at ht
      simp at ht
      omega
    · rw [if_neg c2] at ht
      by_cases c3 : (cd L i).1 = 30
      · have h3 := h2 (by simp [jumpB, c3])
        rw [if_pos c3] at ht
        simp at ht
        omega
      · rw [if_neg c3] at ht
        simp at ht
        omega
theorem onw_next {L : List K} (h : Sane L) {i : Nat} (hi : i < L.length) : (onw i (cd L i).1 (cd L i).2).2.2 = ((nextN i (cd L i).1 (cd L i).2).length : Int) ∧
    (∀ t r, nextN i (cd L i).1 (cd L i).2 = t :: r → (onw i (cd L i).1 (cd L i).2).1 = (t : Int)) ∧ (∀ t u r, nextN i (cd L i).1 (cd L i).2 = t :: u :: r → (onw i (cd L i).1 (cd L i).2).2.1 = (u : Int)) := by
  obtain ⟨h1, h2⟩ := h i hi
  unfold nextN onw
  by_cases c1 : (cd L i).1 = 0 ∨ (cd L i).1 = 36
  · rw [if_pos c1, if_pos c1]; simp
  · rw [if_neg c1, if_neg c1]
    by_cases c2 : (cd L i).1 = 31
    · have h3 := h2 (by simp [jumpB, c2])
      rw [if_pos c2, if_pos c2]
      simp
      intro t u r _ h5 _
      omega
    · rw [if_neg c2, if_neg c2]
      by_cases c3 : (cd L i).1 = 30
      · have h3 := h2 (by simp [jumpB, c3])
        rw [if_pos c3, if_pos c3]
        simp
        omega
      · rw [if_neg c3, if_neg c3]
        simp
theorem next_two (i : Nat) (op a : Int) : (nextN i op a).length ≤ 2 := by
  unfold nextN; repeat (split; simp)
  simp
theorem putD_length {d d' : List Int} {x : Int} {r : List Nat} (h : putD d x r = some d') : d'.length = d.length := by
  induction r generalizing d with
  | nil => simp [putD] at h; rw [h]
  | cons t r ih =>
    unfold putD at h
    split at h
    · simp at h
    · rw [ih h, List.length_set]
theorem stepD_length {d d' : List Int} {k : K} {i : Nat} (h : stepD k i d = some d') : d'.length = d.length := by
  unfold stepD at h
  split at h
  · simp at h; rw [h]
  · split at h
    · simp at h
    · exact putD_length h
theorem runD_length {L : List K} {k : Nat} {d : List Int} (h : runD L k = some d) : d.length = L.length + 1 := by
  induction k generalizing d with
  | zero => simp [runD, startD] at h; rw [← h]; simp
  | succ k ih =>
    unfold runD at h
    cases h1 : runD L k with
    | none => rw [h1] at h; simp at h
    | some d1 => rw [h1] at h; simp at h; rw [stepD_length h, ih h1]
/-- depths are at least -1, at most 32 -/
def Mild (d : List Int) : Prop := ∀ j, j < d.length → -1 ≤ d.getD j 0 ∧ d.getD j 0 ≤ 32
theorem getD_set (d : List Int) (t j : Nat) (x : Int) (h : j < d.length) : (d.set t x).getD j 0 = if t = j then x else d.getD j 0 := by
  simp only [List.getD_eq_getElem?_getD, List.getElem?_set]
  by_cases e : t = j
  · subst e; simp [h]
  · simp [e]
theorem Mild.set {d : List Int} (h : Mild d) (t : Nat) {x : Int} (hx : -1 ≤ x ∧ x ≤ 32) : Mild (d.set t x) := by
  intro j hj
  rw [List.length_set] at hj
  rw [getD_set d t j x hj]
  split
  · exact hx
  · exact h j hj
theorem Mild.put {d d' : List Int} {x : Int} {r : List Nat} (h : Mild d) (hx : -1 ≤ x ∧ x ≤ 32) (hp : putD d x r = some d') : Mild d' := by
  induction r generalizing d with
  | nil => simp [putD] at hp; rw [← hp]; exact h
  | cons t r ih =>
    unfold putD at hp
    split at hp
    · simp at hp
    · exact ih (h.set t hx) hp
theorem Mild.step {d d' : List Int} {k : K} {i : Nat} (h : Mild d) (hk : isOpB k.1 = true) (hp : stepD k i d = some d') : Mild d' := by
  unfold stepD at hp
  split at hp
  · simp at hp; rw [← hp]; exact h
  · split at hp
    · simp at hp
    · have := leaves_bound hk
      exact h.put (by omega) hp
theorem Mild.run {L : List K} (hs : Sane L) {k : Nat} (hk : k ≤ L.length) {d : List Int} (h : runD L k = some d) : Mild d := by
  induction k generalizing d with
  | zero =>
    simp [runD, startD] at h
    rw [← h]
    intro j hj
    cases j with
    | zero => simp
    | succ j => simp at hj; simp [List.getD_eq_getElem?_getD, hj]
  | succ k ih =>
    unfold runD at h
    cases h1 : runD L k with
    | none => rw [h1] at h; simp at h
    | some d1 => rw [h1] at h; simp at h; exact (ih (by omega) h1).step (hs k (by omega)).1 h
theorem runD_stuck {L : List K} {k : Nat} (h : runD L k = none) (n : Nat) (hn : k ≤ n) : runD L n = none := by
  induction n with
  | zero => obtain rfl : k = 0 := by omega
            exact h
  | succ n ih =>
    by_cases e : k = n + 1
    · rw [← e]; exact h
    · unfold runD; rw [ih (by omega)]; rfl

end Go.Proofs.Ytkpggbjibngplaa
