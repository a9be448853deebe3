/-
  WAYS THROUGH A VERIFIED PROGRAM: depths are kept, the longest way falls.
-/
import Derived.Test.YtbpgafchagpmoaaLLMath
namespace Go.Proofs.Ytbpgafchagpmoaa
open Go.RowKit Go.Sort

theorem putD_keep {x : Int} (hx : x ≠ -1) : ∀ {r : List Nat} {d d' : List Int}, putD d x r = some d' → (∀ j, j < d.length → d.getD j 0 ≠ -1 → d'.getD j 0 = d.getD j 0) ∧ (∀ j, j < d.length → j ∉ r → d'.getD j 0 = d.getD j 0) ∧ (∀ t ∈ r, t < d.length → d'.getD t 0 = x)
  | [], d, d', h => by
    simp [putD] at h
    subst h
    exact ⟨fun _ _ _ => rfl, fun _ _ _ => rfl, fun t ht => by cases ht⟩
  | t :: r, d, d', h => by
    unfold putD at h
    split at h
    · simp at h
    · rename_i hc
      obtain ⟨k1, k2, k3⟩ := putD_keep hx h
      rw [List.length_set] at k1 k2 k3
      refine ⟨fun j hj hd => ?_, fun j hj hr => ?_, fun u hu hul => ?_⟩
      · have e : (d.set t x).getD j 0 = d.getD j 0 := by
          rw [getD_set d t j x hj]
          split
          · rename_i e
            subst e
            by_cases he : d.getD t 0 = x
            · exact he.symm
            · exact absurd ⟨hd, he⟩ hc
          · rfl
        rw [k1 j hj (by rw [e]; exact hd), e]
      · rw [k2 j hj (fun h => hr (by simp [h])), getD_set d t j x hj, if_neg (fun e => hr (by simp [e]))]
      · rcases List.mem_cons.1 hu with e | e
        · subst e
          have e2 : (d.set u x).getD u 0 = x := by rw [getD_set d u u x hul, if_pos rfl]
          rw [k1 u hul (by rw [e2]; exact hx), e2]
        · exact k3 u e hul
theorem step_keep {L : List K} (hs : Sane L) {i : Nat} (hi : i < L.length) {d d' : List Int} (hd : d.length = L.length + 1) (h : stepD (cd L i) i d = some d') :
    (∀ j, j ≤ L.length → d.getD j 0 ≠ -1 → d'.getD j 0 = d.getD j 0) ∧ (∀ j, j ≤ i → d'.getD j 0 = d.getD j 0) ∧
    (d.getD i 0 ≠ -1 → 0 ≤ d.getD i 0 - takesN (cd L i).1 ∧ d.getD i 0 - takesN (cd L i).1 + leavesN (cd L i).1 ≤ 32 ∧ ∀ t ∈ nextN i (cd L i).1 (cd L i).2, d'.getD t 0 = d.getD i 0 - takesN (cd L i).1 + leavesN (cd L i).1) := by
  have hn := next_lt hs hi
  have hl := leaves_bound (hs i hi).1
  unfold stepD at h
  split at h
  · rename_i h1
    simp at h
    subst h
    exact ⟨fun _ _ _ => rfl, fun _ _ => rfl, fun h2 => absurd h1 h2⟩
  · split at h
    · simp at h
    · rename_i h2
      have hx : d.getD i 0 - takesN (cd L i).1 + leavesN (cd L i).1 ≠ -1 := by omega
      obtain ⟨k1, k2, k3⟩ := putD_keep hx h
      refine ⟨fun j hj => k1 j (by omega), fun j hj => k2 j (by omega) (fun hr => by have := (hn j hr).1; omega), fun _ => ⟨by omega, by omega, fun t ht => k3 t ht (by have := (hn t ht).2; omega)⟩⟩
theorem run_some {L : List K} {n : Nat} {d : List Int} (h : runD L n = some d) (k : Nat) (hk : k ≤ n) : ∃ dk, runD L k = some dk := by
  cases e : runD L k with
  | none => rw [runD_stuck e n hk] at h; cases h
  | some dk => exact ⟨dk, rfl⟩
theorem run_keep {L : List K} (hs : Sane L) {k : Nat} {dk : List Int} (h : runD L k = some dk) : ∀ (n : Nat) {d : List Int}, k ≤ n → n ≤ L.length → runD L n = some d → (∀ j, j ≤ L.length → dk.getD j 0 ≠ -1 → d.getD j 0 = dk.getD j 0) ∧ (∀ j, j ≤ k → d.getD j 0 = dk.getD j 0)
  | 0, d, hk, _, hd => by
    obtain rfl : k = 0 := by omega
    rw [h] at hd
    cases hd
    exact ⟨fun _ _ _ => rfl, fun _ _ => rfl⟩
  | n + 1, d, hk, hn, hd => by
    by_cases e : k = n + 1
    · subst e
      rw [h] at hd
      cases hd
      exact ⟨fun _ _ _ => rfl, fun _ _ => rfl⟩
    · obtain ⟨d1, h1⟩ := run_some hd n (by omega)
      obtain ⟨a1, a2⟩ := run_keep hs h n (by omega) (by omega) h1
      unfold runD at hd
      rw [h1] at hd
      simp at hd
      obtain ⟨b1, b2, _⟩ := step_keep hs (i := n) (by omega) (runD_length h1) hd
      refine ⟨fun j hj hne => ?_, fun j hj => ?_⟩
      · have e1 := a1 j hj hne
        rw [b1 j hj (by rw [e1]; exact hne), e1]
      · rw [b2 j (by omega), a2 j hj]
/-- WHAT DEPTHS KEEP -/
theorem depth_way {L : List K} (hs : Sane L) {d : List Int} (h : runD L L.length = some d) : d.getD 0 0 = 0 ∧ ∀ i, i < L.length → d.getD i 0 ≠ -1 →
    0 ≤ d.getD i 0 - takesN (cd L i).1 ∧ d.getD i 0 - takesN (cd L i).1 + leavesN (cd L i).1 ≤ 32 ∧ ∀ t ∈ nextN i (cd L i).1 (cd L i).2, d.getD t 0 = d.getD i 0 - takesN (cd L i).1 + leavesN (cd L i).1 := by
  constructor
  · have h0 : runD L 0 = some (startD L.length) := rfl
    rw [(run_keep hs h0 L.length (by omega) (Nat.le_refl _) h).2 0 (by omega)]; rfl
  · intro i hi hd
    obtain ⟨di, h1⟩ := run_some h i (by omega)
    obtain ⟨d2, h2⟩ := run_some h (i + 1) (by omega)
    have e := (run_keep hs h1 L.length (by omega) (Nat.le_refl _) h).2 i (Nat.le_refl _)
    rw [e] at hd ⊢
    have h2' := h2
    unfold runD at h2'
    rw [h1] at h2'
    simp at h2'
    obtain ⟨_, _, b3⟩ := step_keep hs hi (runD_length h1) h2'
    obtain ⟨c1, c2, c3⟩ := b3 hd
    refine ⟨c1, c2, fun t ht => ?_⟩
    have e2 := c3 t ht
    have hl := leaves_bound (hs i hi).1
    rw [(run_keep hs h2 L.length (by omega) (Nat.le_refl _) h).1 t (next_lt hs hi t ht).2 (by rw [e2]; omega), e2]

theorem foldl_max_le (m : List Int) : ∀ (nx : List Nat) (a : Int), a ≤ nx.foldl (fun a t => max a (m.getD t 0)) a ∧ ∀ t ∈ nx, m.getD t 0 ≤ nx.foldl (fun a t => max a (m.getD t 0)) a
  | [], a => ⟨Int.le_refl _, fun t ht => by cases ht⟩
  | u :: nx, a => by
    obtain ⟨h1, h2⟩ := foldl_max_le m nx (max a (m.getD u 0))
    simp only [List.foldl_cons]
    refine ⟨by omega, fun t ht => ?_⟩
    rcases List.mem_cons.1 ht with e | e
    · subst e; omega
    · exact h2 t e
theorem most_keep (L : List K) : ∀ (n k t : Nat), k ≤ n → n ≤ L.length → L.length - k ≤ t → t ≤ L.length → (mostN L n).getD t 0 = (mostN L k).getD t 0
  | 0, k, t, hk, _, _, _ => by obtain rfl : k = 0 := by omega
                               rfl
  | n + 1, k, t, hk, hn, ht, htl => by
    by_cases e : k = n + 1
    · rw [e]
    · have ih := most_keep L n k t (by omega) (by omega) ht htl
      rw [← ih]
      show ((mostN L n).set _ _).getD t 0 = _
      rw [getD_set _ _ _ _ (by rw [most_length]; omega), if_neg (by omega)]
/-- WHAT THE LONGEST WAY KEEPS -/
theorem long_way {L : List K} (hs : Sane L) : ∀ i, i < L.length → 1 ≤ (mostN L L.length).getD i 0 ∧ ∀ t ∈ nextN i (cd L i).1 (cd L i).2, (mostN L L.length).getD t 0 + 1 ≤ (mostN L L.length).getD i 0 := by
  intro i hi
  have e1 := most_keep L L.length (L.length - 1 - i + 1) i (by omega) (Nat.le_refl _) (by omega) (by omega)
  have hix : L.length - 1 - (L.length - 1 - i) = i := by omega
  have e2 : (mostN L (L.length - 1 - i + 1)).getD i 0 = mostV (mostN L (L.length - 1 - i)) (cd L i) i := by
    show ((mostN L (L.length - 1 - i)).set _ _).getD i 0 = _
    rw [hix, getD_set _ _ _ _ (by rw [most_length]; omega), if_pos rfl]
  rw [e1, e2]
  obtain ⟨h1, h2⟩ := foldl_max_le (mostN L (L.length - 1 - i)) (nextN i (cd L i).1 (cd L i).2) 0
  unfold mostV
  refine ⟨by omega, fun t ht => ?_⟩
  have hn := next_lt hs hi t ht
  rw [most_keep L L.length (L.length - 1 - i) t (by omega) (Nat.le_refl _) (by omega) hn.2]
  have := h2 t ht
  omega
theorem most_nonneg {L : List K} (hs : Sane L) (j : Nat) (hj : j ≤ L.length) : 0 ≤ (mostN L L.length).getD j 0 := by
  by_cases h : j < L.length
  · have := (long_way hs j h).1; omega
  · obtain rfl : j = L.length := by omega
    rw [most_keep L L.length 0 L.length (by omega) (Nat.le_refl _) (by omega) (Nat.le_refl _)]
    show 0 ≤ (List.replicate (L.length + 1) 0).getD L.length 0
    simp [List.getD_eq_getElem?_getD]
theorem most_few (L : List K) (hs : Sane L) : ∀ k, k ≤ L.length → Few (mostN L k) (k : Int)
  | 0, _ => by
    intro j hj
    show 0 ≤ (List.replicate (L.length + 1) 0).getD j 0 ∧ (List.replicate (L.length + 1) 0).getD j 0 ≤ _
    simp only [List.getD_eq_getElem?_getD, List.getElem?_replicate]
    split <;> simp
  | k + 1, hk => by
    have ih := most_few L hs k (by omega)
    rw [most_step L k (by omega)]
    have hz := most_zero L k (L.length - 1 - k) (by omega)
    have hn := next_lt hs (i := L.length - 1 - k) (by omega)
    have := foldM_few ih (nextN (L.length - 1 - k) (cd L (L.length - 1 - k)).1 (cd L (L.length - 1 - k)).2) (fun t ht => by rw [most_length]; have := (hn t ht).2; omega) ((mostN L k).getD (L.length - 1 - k) 0) (by rw [hz]; omega)
    refine (ih.mono (by omega)).set _ ?_
    show 0 ≤ foldM _ _ _ + 1 ∧ foldM _ _ _ + 1 ≤ _
    omega
end Go.Proofs.Ytbpgafchagpmoaa
