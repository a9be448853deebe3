/-
  WHAT A COLLECT LETS GO OF A CHAIN: mathematics.
-/
import Derived.Test.YteobmijfbjgccaaRows
namespace Go.Proofs.Yteobmijfbjgccaa

/-- the place of the first batch that is not above b (the length: there is none) -/
def fxW (cs : List Int) (b : Int) : Nat := cs.findIdx (fun x => decide (x ≤ b))
theorem fxW_le (cs : List Int) (b : Int) : fxW cs b ≤ cs.length := List.findIdx_le_length
theorem fxW_lt {cs : List Int} {b : Int} {i : Nat} (h : i < fxW cs b) (hi : i < cs.length) : b < cs[i] := by
  have := List.not_of_lt_findIdx h
  simp at this
  omega
theorem fxW_at {cs : List Int} {b : Int} (h : fxW cs b < cs.length) : cs[fxW cs b] ≤ b := by
  have h1 : (fun x => decide (x ≤ b)) cs[fxW cs b] = true := List.findIdx_getElem (p := fun x => decide (x ≤ b)) (xs := cs) (w := h)
  exact of_decide_eq_true h1
theorem fxW_eq {cs : List Int} {b : Int} {i : Nat} (hi : i < cs.length) (h1 : i ≤ fxW cs b) (h2 : cs[i] ≤ b) : fxW cs b = i := by
  by_cases e : fxW cs b = i
  · exact e
  · have := fxW_lt (cs := cs) (b := b) (i := i) (by omega) hi
    omega
theorem fxW_ne {cs : List Int} {b : Int} {i : Nat} (hi : i < cs.length) (h1 : i ≤ fxW cs b) (h2 : b < cs[i]) : i + 1 ≤ fxW cs b := by
  by_cases e : fxW cs b = i
  · have h3 : fxW cs b < cs.length := by omega
    have := fxW_at h3
    have h4 : cs[fxW cs b] = cs[i] := by simp only [e]
    omega
  · omega
/-- what is let go -/
def dropW (cs : List Int) (fl : Int) (ps : List Int) (i : Nat) : Bool := !(decide (fl < cs.getD i 0) || decide (fxW cs fl = i) || ps.any (fun p => decide (fxW cs p = i)))
def dropsW (cs : List Int) (fl : Int) (ps : List Int) : List Bool := (List.range cs.length).map (dropW cs fl ps)
theorem dropsW_len (cs : List Int) (fl : Int) (ps : List Int) : (dropsW cs fl ps).length = cs.length := by simp [dropsW]
theorem dropsW_get {cs : List Int} {fl : Int} {ps : List Int} {i : Nat} (hi : i < cs.length) : (dropsW cs fl ps)[i]? = some (dropW cs fl ps i) := by simp [dropsW, hi]
/-- those that have met nothing yet -/
structure BlindW (cs S : List Int) (i a : Nat) : Prop where
  le : a ≤ S.length
  no : ∀ t (ht : t < S.length), t < a → i ≤ fxW cs S[t]
  yes : ∀ t (ht : t < S.length), a ≤ t → fxW cs S[t] < i
theorem BlindW.start (cs S : List Int) : BlindW cs S 0 S.length := ⟨Nat.le_refl _, fun _ _ _ => Nat.zero_le _, fun t ht h => by omega⟩
theorem BlindW.next {cs S : List Int} {i a c : Nat} (h : BlindW cs S i a) (hi : i < cs.length) (hc : c ≤ a) (h1 : ∀ t (ht : t < S.length), t < c → S[t] < cs[i]) (h2 : ∀ t (ht : t < S.length), c ≤ t → t < a → cs[i] ≤ S[t]) : BlindW cs S (i + 1) c := by
  refine ⟨Nat.le_trans hc h.le, fun t ht htc => fxW_ne hi (h.no t ht (by omega)) (h1 t ht htc), fun t ht htc => ?_⟩
  by_cases hta : t < a
  · have := fxW_eq hi (h.no t ht hta) (h2 t ht htc hta)
    omega
  · have := h.yes t ht (by omega)
    omega
theorem BlindW.drop {cs S ps : List Int} {fl : Int} {i a c : Nat} (h : BlindW cs S i a) (hi : i < cs.length) (hc : c ≤ a) (h1 : ∀ t (ht : t < S.length), t < c → S[t] < cs[i]) (h2 : ∀ t (ht : t < S.length), c ≤ t → t < a → cs[i] ≤ S[t]) (hp : S.Perm (ps ++ [fl])) :
    dropW cs fl ps i = (decide (cs[i] ≤ fl) && decide (c = a)) := by
  have hg : cs.getD i 0 = cs[i] := by simp [List.getD, hi]
  have hm : (decide (fxW cs fl = i) || ps.any (fun p => decide (fxW cs p = i))) = S.any (fun p => decide (fxW cs p = i)) := by
    rw [Bool.eq_iff_iff]
    simp only [Bool.or_eq_true, List.any_eq_true, decide_eq_true_eq]
    constructor
    · rintro (h3 | ⟨p, h3, h4⟩)
      · exact ⟨fl, hp.mem_iff.2 (by simp), h3⟩
      · exact ⟨p, hp.mem_iff.2 (by simp [h3]), h4⟩
    · rintro ⟨p, h3, h4⟩
      rcases List.mem_append.1 (hp.mem_iff.1 h3) with h5 | h5
      · exact .inr ⟨p, h5, h4⟩
      · simp only [List.mem_singleton] at h5
        subst h5
        exact .inl h4
  have hs : S.any (fun p => decide (fxW cs p = i)) = !decide (c = a) := by
    rw [Bool.eq_iff_iff]
    simp only [List.any_eq_true, decide_eq_true_eq, Bool.not_eq_true', decide_eq_false_iff_not]
    constructor
    · rintro ⟨p, h3, h4⟩ e
      obtain ⟨t, ht, rfl⟩ := List.getElem_of_mem h3
      by_cases hta : t < a
      · have := fxW_ne hi (h.no t ht hta) (h1 t ht (by omega))
        omega
      · have := h.yes t ht (by omega)
        omega
    · intro hne
      have ht : c < S.length := by have := h.le; omega
      exact ⟨S[c], List.getElem_mem ht, fxW_eq hi (h.no c ht (by omega)) (h2 c ht (Nat.le_refl _) (by omega))⟩
  unfold dropW
  rw [Bool.or_assoc, hm, hs, hg]
  by_cases e : fl < cs[i]
  · simp [e, show ¬ cs[i] ≤ fl by omega]
  · simp [e, show cs[i] ≤ fl by omega]
/-- how many are below: they stand in front -/
theorem cnt_front {S : List Int} (hs : S.Pairwise (· ≤ ·)) (x : Int) : S.countP (fun y => !decide (x ≤ y)) ≤ S.length ∧ (∀ t (ht : t < S.length), t < S.countP (fun y => !decide (x ≤ y)) → S[t] < x) ∧ (∀ t (ht : t < S.length), S.countP (fun y => !decide (x ≤ y)) ≤ t → x ≤ S[t]) := by
  induction S with
  | nil => simp
  | cons y S ih =>
    obtain ⟨h0, h1, h2⟩ := ih (List.pairwise_cons.1 hs).2
    have hy := (List.pairwise_cons.1 hs).1
    by_cases hxy : x ≤ y
    · have hz : S.countP (fun y => !decide (x ≤ y)) = 0 := by
        rw [List.countP_eq_zero]
        intro z hz
        have := hy z hz
        simp
        omega
      rw [List.countP_cons_of_neg (by simpa using hxy), hz]
      refine ⟨Nat.zero_le _, fun t _ h => by omega, fun t ht _ => ?_⟩
      cases t with
      | zero => simpa using hxy
      | succ t =>
        have ht' : t < S.length := by simpa using ht
        have := hy S[t] (List.getElem_mem ht')
        simp only [List.getElem_cons_succ]
        omega
    · rw [List.countP_cons_of_pos (by simp; omega)]
      refine ⟨by simpa using h0, fun t ht h => ?_, fun t ht h => ?_⟩
      · cases t with
        | zero => simp; omega
        | succ t => simpa using h1 t (by simpa using ht) (by omega)
      · cases t with
        | zero => omega
        | succ t => simpa using h2 t (by simpa using ht) (by omega)
end Go.Proofs.Yteobmijfbjgccaa
