/-
  PROGRAMS THAT GROW: more args, reads, writes, locals; a stop and what no way reaches behind.
-/
import Derived.Test.YtjmlogljfboleabLWMath
namespace Go.Proofs.Ytjmlogljfboleab
open Go.RowKit Go.Sort

/-- more of all -/
def MoreP (p q : Nums) : Prop := p.args ≤ q.args ∧ q.args ≤ 16 ∧ p.reads ≤ q.reads ∧ q.reads ≤ 16 ∧ p.writes ≤ q.writes ∧ q.writes ≤ 16 ∧ p.locals ≤ q.locals ∧ q.locals ≤ 16
theorem room_more {p q : Nums} (h : MoreP p q) (op : Int) : roomN p op ≤ roomN q op := by
  obtain ⟨h1, h2, h3, h4, h5, h6, h7, h8⟩ := h
  unfold roomN
  repeat (split; omega)
  omega
theorem look_more {p q : Nums} (h : MoreP p q) {n n' i : Nat} (hn : n ≤ n') {k : K} (h0 : lookN p n i k = 0) : lookN q n' i k = 0 := by
  unfold lookN at h0 ⊢
  cases ho : isOpB k.1 with
  | false => rw [if_pos ho] at h0; cases h0
  | true =>
    rw [if_neg (by simp [ho])] at h0
    rw [if_neg (by simp)]
    by_cases hj : jumpB k.1 = true ∧ (k.2 ≤ (i : Int) ∨ (n : Int) < k.2)
    · rw [if_pos hj] at h0; cases h0
    · rw [if_neg hj] at h0
      rw [if_neg (by rintro ⟨a, b⟩; exact hj ⟨a, by omega⟩)]
      cases hf : fitsB p k.1 k.2 with
      | false => rw [if_pos hf] at h0; cases h0
      | true =>
        have : fitsB q k.1 k.2 = true := by
          have hr := room_more h k.1
          simp only [fitsB, Bool.or_eq_true, decide_eq_true_eq, Bool.and_eq_true] at hf ⊢
          rcases hf with hf | ⟨f1, f2⟩
          · exact .inl hf
          · exact .inr ⟨f1, by omega⟩
        rw [if_neg (by rw [this]; simp)]
theorem lim_more {p q : Nums} (h : MoreP p q) {n n' : Nat} (hl : limB p n = true) (hn : n' ≤ 256) : limB q n' = true := by
  obtain ⟨h1, h2, h3, h4, h5, h6, h7, h8⟩ := h
  rw [limB_iff] at hl ⊢
  omega
theorem depths_of {p : Nums} {L : List K} {d : List Int} (h1 : limB p L.length = true) (h2 : lookAll p L L.length = 0) (h3 : runD L L.length = some d) : depthsN p L = (d, 0) := by
  unfold depthsN
  rw [if_neg (by rw [h1]; simp), if_neg (by rw [h2]; simp), h3]
/-- MORE OF ALL: the same depths -/
theorem grows_same {p q : Nums} {L : List K} (hv : verifyN p L = 0) (h : MoreP p q) : depthsN q L = depthsN p L ∧ verifyN q L = 0 := by
  obtain ⟨h1, h2, d, h3, h4⟩ := verify_ok hv
  have hl := lim_more h h1 (((limB_iff p L.length).1 h1).2.2.2.2)
  have hk : lookAll q L L.length = 0 := firstE_all fun i hi => look_more h (Nat.le_refl _) (firstE_zero h2 i hi)
  have := depths_of hl hk h3
  exact ⟨this.trans h4.symm, by unfold verifyN; rw [this]⟩

theorem putD_ext {x : Int} (r : List Int) : ∀ (nx : List Nat) (d : List Int), (∀ t ∈ nx, t < d.length) → putD (d ++ r) x nx = (putD d x nx).map (· ++ r)
  | [], d, _ => rfl
  | t :: nx, d, h => by
    have ht := h t (by simp)
    have e1 : (d ++ r).getD t 0 = d.getD t 0 := by rw [List.getD_eq_getElem?_getD, List.getD_eq_getElem?_getD, List.getElem?_append_left ht]
    have e2 : (d ++ r).set t x = d.set t x ++ r := List.set_append_left _ _ ht
    simp only [putD, e1, e2]
    split
    · rfl
    · exact putD_ext r nx (d.set t x) (fun u hu => by rw [List.length_set]; exact h u (by simp [hu]))
theorem stepD_ext {k : K} {i : Nat} {d : List Int} (r : List Int) (hi : i < d.length) (h : ∀ t ∈ nextN i k.1 k.2, t < d.length) : stepD k i (d ++ r) = (stepD k i d).map (· ++ r) := by
  have e1 : (d ++ r).getD i 0 = d.getD i 0 := by rw [List.getD_eq_getElem?_getD, List.getD_eq_getElem?_getD, List.getElem?_append_left hi]
  unfold stepD
  rw [e1]
  split
  · rfl
  · split
    · rfl
    · exact putD_ext r _ d h
theorem cd_left (L M : List K) (i : Nat) (h : i < L.length) : cd (L ++ M) i = cd L i := by
  simp [cd, List.getD_eq_getElem?_getD, List.getElem?_append_left h]
theorem cd_right (L M : List K) (i : Nat) : cd (L ++ M) (L.length + i) = cd M i := by
  simp only [cd, List.getD_eq_getElem?_getD]
  rw [List.getElem?_append_right (by omega), Nat.add_sub_cancel_left]
theorem run_ext {L : List K} (hs : Sane L) (M : List K) : ∀ k, k ≤ L.length → runD (L ++ M) k = (runD L k).map (· ++ List.replicate M.length (-1))
  | 0, _ => by
    simp only [runD, startD, List.length_append, Option.map_some, List.cons_append, List.replicate_append_replicate]
  | k + 1, hk => by
    have ih := run_ext hs M k (by omega)
    simp only [runD]
    rw [ih, cd_left L M k (by omega)]
    cases h : runD L k with
    | none => rfl
    | some d =>
      have hl := runD_length h
      simp only [Option.map_some, Option.bind_some]
      exact stepD_ext _ (by omega) (fun t ht => by have := (next_lt hs (i := k) (by omega) t ht).2; omega)
/-- A STOP AND WHAT NO WAY REACHES BEHIND -/
theorem run_tail {L : List K} (hs : Sane L) (T : List K) {d : List Int} (h : runD L L.length = some d) : ∀ j, j ≤ T.length + 1 → runD (L ++ (0, 0) :: T) (L.length + j) = some (d ++ List.replicate (T.length + 1) (-1))
  | 0, _ => by
    rw [Nat.add_zero, run_ext hs _ _ (Nat.le_refl _), h]; rfl
  | j + 1, hj => by
    have ih := run_tail hs T h j (by omega)
    have hl := runD_length h
    rw [show L.length + (j + 1) = (L.length + j) + 1 by omega]
    simp only [runD]
    rw [ih, Option.bind_some, cd_right]
    by_cases h0 : j = 0
    · subst h0
      have e1 : (d ++ List.replicate (T.length + 1) (-1)).getD (L.length + 0) 0 = d.getD L.length 0 := by
        rw [List.getD_eq_getElem?_getD, List.getD_eq_getElem?_getD, List.getElem?_append_left (by omega)]; rfl
      have hm := Mild.run hs (Nat.le_refl _) h L.length (by omega)
      unfold stepD
      rw [e1]
      show (if d.getD L.length 0 = -1 then _ else if d.getD L.length 0 - takesN 0 < 0 ∨ 32 < d.getD L.length 0 - takesN 0 + leavesN 0 then _ else putD _ _ (nextN _ 0 0)) = _
      rw [show takesN 0 = 0 from rfl, show leavesN 0 = 0 from rfl, show nextN (L.length + 0) 0 0 = [] from rfl]
      split
      · rfl
      · rw [if_neg (by omega)]; rfl
    · have e1 : (d ++ List.replicate (T.length + 1) (-1)).getD (L.length + j) 0 = -1 := by
        rw [List.getD_eq_getElem?_getD, List.getElem?_append_right (by omega), List.getElem?_replicate, if_pos (by omega)]; rfl
      unfold stepD
      rw [e1, if_pos rfl]
theorem grows_tail {p q : Nums} {L T : List K} (hv : verifyN p L = 0) (h : MoreP p q) (hlen : (L ++ (0, 0) :: T).length ≤ 256) (hT : ∀ k ∈ T, (10 ≤ k.1 ∧ k.1 ≤ 19) ∧ k.2 = 0) :
    depthsN q (L ++ (0, 0) :: T) = ((depthsN p L).1 ++ List.replicate (T.length + 1) (-1), 0) ∧ verifyN q (L ++ (0, 0) :: T) = 0 := by
  obtain ⟨h1, h2, d, h3, h4⟩ := verify_ok hv
  have hs := sane_of h2
  have hl := lim_more h h1 hlen
  have hk : lookAll q (L ++ (0, 0) :: T) (L ++ (0, 0) :: T).length = 0 := firstE_all fun i hi => by
    by_cases hiL : i < L.length
    · rw [cd_left L _ i hiL]
      exact look_more h (by simp) (firstE_zero h2 i hiL)
    · obtain ⟨j, rfl⟩ : ∃ j, i = L.length + j := ⟨i - L.length, by omega⟩
      rw [cd_right]
      cases j with
      | zero => rfl
      | succ j =>
        have hj : j < T.length := by simp at hi; omega
        have hm : cd ((0, 0) :: T) (j + 1) ∈ T := by
          simp [cd, List.getD_eq_getElem?_getD, List.getElem?_eq_getElem hj]
        obtain ⟨⟨t1, t2⟩, t3⟩ := hT _ hm
        generalize cd ((0, 0) :: T) (j + 1) = k at *
        have ho : isOpB k.1 = true := by simp only [isOpB, Bool.and_eq_true, decide_eq_true_eq]; omega
        have hj0 : ¬ (jumpB k.1 = true ∧ (k.2 ≤ ((L.length + (j + 1) : Nat) : Int) ∨ (((L ++ (0, 0) :: T).length : Nat) : Int) < k.2)) := by
          rintro ⟨a, _⟩
          simp only [jumpB, Bool.or_eq_true, decide_eq_true_eq] at a; omega
        have hf : fitsB q k.1 k.2 = true := by
          simp only [fitsB, Bool.or_eq_true, decide_eq_true_eq, Bool.and_eq_true]
          refine .inr ⟨by omega, ?_⟩
          have hr : roomN q k.1 = 1 := by
            unfold roomN
            rw [if_neg (by omega), if_neg (by omega), if_neg (by omega), if_neg (by omega), if_neg (by omega)]
          omega
        unfold lookN
        rw [if_neg (by rw [ho]; simp), if_neg hj0, if_neg (by rw [hf]; simp)]
  have hr := run_tail hs T h3 (T.length + 1) (Nat.le_refl _)
  have e : L.length + (T.length + 1) = (L ++ (0, 0) :: T).length := by simp
  rw [e] at hr
  have := depths_of hl hk hr
  rw [h4]
  exact ⟨this, by unfold verifyN; rw [this]⟩
end Go.Proofs.Ytjmlogljfboleab
