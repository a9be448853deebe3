/-
  Collect: THE MATHEMATICS.
-/
import Derived.Test.YtbmohlkcmhhpgaaGreatBkThinH
namespace Go.Proofs.YtbmohlkcmhhpgaaGreat
open Go.RowKit Go.Sort

/-- a key's versions -/
def ofV (k : K) (l : List V4) : List V4 := l.filter (fun v => decide (v.1 = k))
/-- what is kept of a key's versions -/
def kpt (d : List Int) (l : List V4) : List V4 := match l.reverse with
  | [] => []
  | u :: r => (keepR d u.1 r u.2.1).reverse ++ [u]
theorem keepR_sub {d : List Int} {k : K} : ∀ (l : List V4) (nb : Int), (keepR d k l nb).Sublist l
  | [], _ => List.Sublist.refl _
  | v :: l, nb => by
    simp only [keepR]
    split
    · split
      · exact (keepR_sub l _).cons_cons v
      · exact (keepR_sub l _).cons v
    · exact (keepR_sub l _).cons_cons v
theorem keepR_same {d : List Int} {k : K} : ∀ (l : List V4) (nb : Int), ofV k (keepR d k l nb) = keepR d k (ofV k l) nb
  | [], _ => rfl
  | v :: l, nb => by
    by_cases hv : v.1 = k
    · have e1 : ofV k (v :: l) = v :: ofV k l := by simp [ofV, hv]
      rw [e1]
      simp only [keepR, if_pos hv]
      split
      · have e2 : ofV k (v :: keepR d k l v.2.1) = v :: ofV k (keepR d k l v.2.1) := by simp [ofV, hv]
        rw [e2, keepR_same l]
      · exact keepR_same l _
    · have e1 : ofV k (v :: l) = ofV k l := by simp [ofV, hv]
      rw [e1]
      simp only [keepR, if_neg hv]
      have e2 : ofV k (v :: keepR d k l nb) = ofV k (keepR d k l nb) := by simp [ofV, hv]
      rw [e2, keepR_same l]
theorem keepR_oth {d : List Int} {k k' : K} (hk : k' ≠ k) : ∀ (l : List V4) (nb : Int), ofV k' (keepR d k l nb) = ofV k' l
  | [], _ => rfl
  | v :: l, nb => by
    by_cases hv : v.1 = k
    · have hv' : ¬ v.1 = k' := fun e => hk (e.symm.trans hv)
      have e1 : ofV k' (v :: l) = ofV k' l := by simp [ofV, hv']
      rw [e1]
      simp only [keepR, if_pos hv]
      split
      · have e2 : ofV k' (v :: keepR d k l v.2.1) = ofV k' (keepR d k l v.2.1) := by simp [ofV, hv']
        rw [e2, keepR_oth hk l]
      · exact keepR_oth hk l _
    · simp only [keepR, if_neg hv]
      have e2 : ∀ m : List V4, ofV k' (v :: m) = ofV k' [v] ++ ofV k' m := fun m => by rw [show v :: m = [v] ++ m from rfl]; exact List.filter_append _ _
      rw [e2, e2 l, keepR_oth hk l]
theorem ofV_append (k : K) (A B : List V4) : ofV k (A ++ B) = ofV k A ++ ofV k B := List.filter_append _ _
theorem ofV_rev (k : K) (A : List V4) : ofV k A.reverse = (ofV k A).reverse := List.filter_reverse
theorem ofV_none {k : K} {l : List V4} (h : ∀ v ∈ l, v.1 ≠ k) : ofV k l = [] := List.filter_eq_nil_iff.2 (fun v hv => by simpa using h v hv)
theorem thinT_sub (d : List Int) (k : K) (X : List V4) (u : V4) (Y : List V4) : (thinT d k X u Y).Sublist (X ++ u :: Y) := by
  unfold thinT
  refine List.Sublist.append_right ?_ _
  have := (keepR_sub (d := d) (k := k) X.reverse u.2.1).reverse
  rwa [List.reverse_reverse] at this
theorem thinT_same {d : List Int} {X Y : List V4} {u : V4} (hY : ∀ v ∈ Y, v.1 ≠ u.1) : ofV u.1 (thinT d u.1 X u Y) = kpt d (ofV u.1 (X ++ u :: Y)) := by
  have e1 : ofV u.1 (u :: Y) = [u] := by
    rw [show u :: Y = [u] ++ Y from rfl, ofV_append, ofV_none hY]
    simp [ofV]
  unfold thinT
  rw [ofV_append, ofV_append, e1, ofV_rev, keepR_same, ofV_rev]
  unfold kpt
  simp
theorem thinT_oth {d : List Int} {X Y : List V4} {u : V4} {k' : K} (hk : k' ≠ u.1) : ofV k' (thinT d u.1 X u Y) = ofV k' (X ++ u :: Y) := by
  unfold thinT
  rw [ofV_append, ofV_append, ofV_rev, keepR_oth hk, ofV_rev, List.reverse_reverse]
/-- where the keys of S are gone through -/
def CollR (d : List Int) (all : List V4) (S : K → Prop) (allc : List V4) : Prop := allc.Sublist all ∧ ∀ k, (S k → ofV k allc = kpt d (ofV k all)) ∧ (¬ S k → ofV k allc = ofV k all)
theorem CollR.step {d : List Int} {all : List V4} {S : K → Prop} {X Y : List V4} {u : V4} (h : CollR d all S (X ++ u :: Y)) (hY : ∀ v ∈ Y, v.1 ≠ u.1) (hS : ¬ S u.1) : CollR d all (fun k => S k ∨ k = u.1) (thinT d u.1 X u Y) := by
  refine ⟨(thinT_sub _ _ _ _ _).trans h.1, fun k => ?_⟩
  by_cases hk : k = u.1
  · subst hk
    refine ⟨fun _ => ?_, fun hn => absurd (.inr rfl) hn⟩
    rw [thinT_same hY, (h.2 u.1).2 hS]
  · rw [thinT_oth hk]
    refine ⟨fun hs => (h.2 k).1 (hs.resolve_right hk), fun hn => (h.2 k).2 (fun hs => hn (.inl hs))⟩
/-- what a collect leaves -/
def CollN (d : List Int) (all all' : List V4) : Prop := all'.Sublist all ∧ ∀ k, ofV k all' = kpt d (ofV k all)
theorem CollR.fin {d : List Int} {all : List V4} {S : K → Prop} {allc : List V4} (h : CollR d all S allc) (hS : ∀ v ∈ all, S v.1) : CollN d all allc := by
  refine ⟨h.1, fun k => ?_⟩
  by_cases hk : ∃ v ∈ all, v.1 = k
  · obtain ⟨v, hv, rfl⟩ := hk
    exact (h.2 _).1 (hS v hv)
  · have e1 : ofV k all = [] := ofV_none (fun v hv e => hk ⟨v, hv, e⟩)
    have e2 : ofV k allc = [] := ofV_none (fun v hv e => hk ⟨v, h.1.subset hv, e⟩)
    rw [e1, e2]
    rfl
theorem CollR.start (d : List Int) (all : List V4) : CollR d all (fun _ => False) all := ⟨List.Sublist.refl _, fun _ => ⟨fun h => h.elim, fun _ => rfl⟩⟩
end Go.Proofs.YtbmohlkcmhhpgaaGreat
