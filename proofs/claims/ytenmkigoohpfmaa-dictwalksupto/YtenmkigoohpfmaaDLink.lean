/-
  LINES AS LISTS: an entry more, an entry less, a value changed.
-/
import Derived.Test.YtenmkigoohpfmaaDDrop
namespace Go.Proofs.Ytenmkigoohpfmaa
open Go.RowKit Go.Sort

theorem split_uniq {A A' C C' : List En} {t x : En} (hn : ((A ++ t :: C).map En.b).Nodup) (h : A ++ t :: C = A' ++ x :: C') (hb : t.b = x.b) : A = A' ∧ t = x ∧ C = C' := by
  induction A generalizing A' with
  | nil =>
    cases A' with
    | nil => simp at h; exact ⟨rfl, h.1, h.2⟩
    | cons a A' =>
      simp only [List.nil_append, List.cons_append, List.cons.injEq] at h
      obtain ⟨rfl, rfl⟩ := h
      exfalso
      simp only [List.nil_append, List.map_cons, List.map_append, List.nodup_cons] at hn
      exact hn.1 (by simp [hb])
  | cons a A ih =>
    cases A' with
    | nil =>
      simp only [List.nil_append, List.cons_append, List.cons.injEq] at h
      obtain ⟨rfl, rfl⟩ := h
      exfalso
      simp only [List.cons_append, List.map_cons, List.map_append, List.nodup_cons] at hn
      exact hn.1 (by simp [hb])
    | cons a' A' =>
      simp only [List.cons_append, List.cons.injEq] at h
      obtain ⟨rfl, h⟩ := h
      simp only [List.cons_append, List.map_cons, List.nodup_cons] at hn
      obtain ⟨h1, h2, h3⟩ := ih hn.2 h
      exact ⟨by rw [h1], h2, h3⟩
/-- the last of a partition -/
theorem last_split {p : Nat} {es : List En} (h : pt p es ≠ []) : ∃ A t C, es = A ++ t :: C ∧ t.p = p ∧ pt p C = [] := by
  induction es with
  | nil => exact absurd rfl h
  | cons e es ih =>
    by_cases h2 : pt p es = []
    · by_cases hp : e.p = p
      · exact ⟨[], e, es, rfl, hp, h2⟩
      · rw [pt_cons_other hp] at h; exact absurd h2 h
    · obtain ⟨A, t, C, rfl, h3, h4⟩ := ih h2
      exact ⟨e :: A, t, C, rfl, h3, h4⟩
/-- the first of a partition -/
theorem first_split {p : Nat} {es : List En} (h : pt p es ≠ []) : ∃ A t C, es = A ++ t :: C ∧ t.p = p ∧ pt p A = [] := by
  induction es with
  | nil => exact absurd rfl h
  | cons e es ih =>
    by_cases hp : e.p = p
    · exact ⟨[], e, es, rfl, hp, rfl⟩
    · rw [pt_cons_other hp] at h
      obtain ⟨A, t, C, rfl, h3, h4⟩ := ih h
      exact ⟨e :: A, t, C, rfl, h3, by rw [pt_cons_other hp]; exact h4⟩
theorem lp_last {p : Nat} {A C : List En} {t : En} (hp : t.p = p) (hC : pt p C = []) : lp (pt p (A ++ t :: C)) = ptr t.b := by
  rw [pt_append, pt_cons_same hp, hC, lp_snoc]
theorem hp_first {p : Nat} {A C : List En} {t : En} (hp' : t.p = p) (hA : pt p A = []) : hp (pt p (A ++ t :: C)) = ptr t.b := by
  rw [pt_append, pt_cons_same hp', hA]; rfl
theorem hp_append {X Y : List En} (h : X ≠ []) : hp (X ++ Y) = hp X := by
  cases X with
  | nil => exact absurd rfl h
  | cons x X => rfl
theorem lp_append {X Y : List En} (h : Y ≠ []) : lp (X ++ Y) = lp Y := by
  unfold lp
  rw [List.getLast?_append]
  cases hy : Y.getLast? with
  | none => rw [List.getLast?_eq_none_iff] at hy; exact absurd hy h
  | some y => rfl
theorem pt_ne {p : Nat} {A C : List En} {t : En} (hp : t.p = p) : pt p (A ++ t :: C) ≠ [] := by
  rw [pt_append, pt_cons_same hp]; simp
theorem snoc_split {es A C : List En} {e x : En} (h : es ++ [e] = A ++ x :: C) : (x = e ∧ A = es ∧ C = []) ∨ ∃ C', C = C' ++ [e] ∧ es = A ++ x :: C' := by
  rcases List.eq_nil_or_concat C with rfl | ⟨C', y, rfl⟩
  · have := List.append_inj' h rfl
    simp at this
    exact .inl ⟨this.2.symm, this.1.symm, rfl⟩
  · rw [List.concat_eq_append, ← List.cons_append, ← List.append_assoc] at h
    have := List.append_inj' h rfl
    simp only [List.cons.injEq, and_true] at this
    exact .inr ⟨C', by rw [List.concat_eq_append, this.2], this.1⟩
theorem mid_split {A C A' C' : List En} {x : En} (h : A ++ C = A' ++ x :: C') : (∃ A2, A = A' ++ x :: A2 ∧ C' = A2 ++ C) ∨ (∃ C1, C = C1 ++ x :: C' ∧ A' = A ++ C1) := by
  rcases List.append_eq_append_iff.1 h with ⟨Z, h1, h2⟩ | ⟨Z, h1, h2⟩
  · exact .inr ⟨Z, h2, h1⟩
  · cases Z with
    | nil => simp at h1 h2; subst h1; exact .inr ⟨[], by simp [h2], by simp⟩
    | cons z Z =>
      simp only [List.cons_append, List.cons.injEq] at h2
      obtain ⟨rfl, rfl⟩ := h2
      exact .inl ⟨Z, h1, rfl⟩
theorem ne_block {es : List En} {x y : En} (hn : (es.map En.b).Nodup) (hx : x ∈ es) (hy : y ∈ es) (hne : x ≠ y) : x.b ≠ y.b := by
  intro e
  obtain ⟨A, C, rfl⟩ := List.append_of_mem hx
  obtain ⟨A', C', h⟩ := List.append_of_mem hy
  exact hne (split_uniq hn h e).2.1

/-- an entry more -/
theorem DA.snoc {w w' : World} {D M L P : Nat} {hf : Value} {es : List En} (h : DA w D M L hf P es) (e : En) (he : e.p < P ∧ KIn e.k ∧ In64 e.v) (hk : fd es e.k = none) (hb : ∀ x ∈ es, x.b ≠ e.b)
    (hD : w'.heap[D]? = w.heap[D]?) (hM : ∃ ms c, w'.heap[M]? = some (.map ms c) ∧ ms.toList.map (fun x => (x.key, x.val)) = (es ++ [e]).map (fun e => (kv e.k, ptr e.b)))
    (hL : ∃ C, w'.heap[L]? = some (.cells C TL (0, 0)) ∧ C.size = 3 * P ∧ ∀ p, p < P → C[3 * p]? = some (hp (pt p (es ++ [e]))) ∧ C[3 * p + 1]? = some (lp (pt p (es ++ [e]))) ∧ C[3 * p + 2]? = some (.int .i64 ((pt p (es ++ [e])).length : Int)))
    (hE : w'.heap[e.b]? = some (.cells (cellsE e (lp (pt e.p es)) (.pointer none)) TE (0, 0)))
    (ht : ∀ A t C, es = A ++ t :: C → t.p = e.p → pt e.p C = [] → w'.heap[t.b]? = some (.cells (cellsE t (lp (pt t.p A)) (ptr e.b)) TE (0, 0)))
    (ho : ∀ A x C, es = A ++ x :: C → ¬ (x.p = e.p ∧ pt e.p C = []) → w'.heap[x.b]? = w.heap[x.b]?) : DA w' D M L hf P (es ++ [e]) := by
  refine ⟨hD.trans h.dc, hM, hL, fun A x C hs => ?_, ?_, ?_, ?_, h.P0⟩
  · rcases snoc_split hs with ⟨rfl, rfl, rfl⟩ | ⟨C', rfl, he'⟩
    · exact hE
    · by_cases hx : x.p = e.p
      · by_cases hC : pt e.p C' = []
        · rw [ht A x C' he' hx hC, hx, pt_append, hC, pt_cons_same rfl]; rfl
        · rw [ho A x C' he' (fun hh => hC hh.2), h.en A x C' he', hx, pt_append, hp_append hC]
      · rw [ho A x C' he' (fun hh => hx hh.1), h.en A x C' he', pt_append, pt_cons_other (Ne.symm hx), pt_nil, List.append_nil]
  · rw [List.map_append, List.nodup_append]
    refine ⟨h.kn, by simp, fun a ha b hb' => ?_⟩
    simp at hb'
    subst hb'
    obtain ⟨x, hx, rfl⟩ := List.mem_map.1 ha
    exact fd_none hk x hx
  · rw [List.map_append, List.nodup_append]
    refine ⟨h.bn, by simp, fun a ha b hb' => ?_⟩
    simp at hb'
    subst hb'
    obtain ⟨x, hx, rfl⟩ := List.mem_map.1 ha
    exact hb x hx
  · intro x hx
    rcases List.mem_append.1 hx with hx | hx
    · exact h.pp x hx
    · simp at hx; subst hx; exact he
/-- an entry less -/
theorem DA.erase {w w' : World} {D M L P : Nat} {hf : Value} {A C : List En} {e : En} (h : DA w D M L hf P (A ++ e :: C))
    (hD : w'.heap[D]? = w.heap[D]?) (hM : ∃ ms c, w'.heap[M]? = some (.map ms c) ∧ ms.toList.map (fun x => (x.key, x.val)) = (A ++ C).map (fun e => (kv e.k, ptr e.b)))
    (hL : ∃ Z, w'.heap[L]? = some (.cells Z TL (0, 0)) ∧ Z.size = 3 * P ∧ ∀ p, p < P → Z[3 * p]? = some (hp (pt p (A ++ C))) ∧ Z[3 * p + 1]? = some (lp (pt p (A ++ C))) ∧ Z[3 * p + 2]? = some (.int .i64 ((pt p (A ++ C)).length : Int)))
    (hpre : ∀ A0 a A2, A = A0 ++ a :: A2 → a.p = e.p → pt e.p A2 = [] → w'.heap[a.b]? = some (.cells (cellsE a (lp (pt a.p A0)) (hp (pt e.p C))) TE (0, 0)))
    (hsuc : ∀ C1 c C2, C = C1 ++ c :: C2 → c.p = e.p → pt e.p C1 = [] → w'.heap[c.b]? = some (.cells (cellsE c (lp (pt e.p A)) (hp (pt c.p C2))) TE (0, 0)))
    (ho1 : ∀ A0 x A2, A = A0 ++ x :: A2 → ¬ (x.p = e.p ∧ pt e.p A2 = []) → w'.heap[x.b]? = w.heap[x.b]?)
    (ho2 : ∀ C1 x C2, C = C1 ++ x :: C2 → ¬ (x.p = e.p ∧ pt e.p C1 = []) → w'.heap[x.b]? = w.heap[x.b]?) : DA w' D M L hf P (A ++ C) := by
  have sub : ∀ {β : Type} (f : En → β), ((A ++ e :: C).map f).Nodup → ((A ++ C).map f).Nodup := fun f hn =>
    List.Sublist.nodup (List.Sublist.map f (List.Sublist.append (List.Sublist.refl A) (List.sublist_cons_self e C))) hn
  refine ⟨hD.trans h.dc, hM, hL, fun A' x C' hs => ?_, sub _ h.kn, sub _ h.bn, fun x hx => h.pp x (by rcases List.mem_append.1 hx with hx | hx <;> simp [hx]), h.P0⟩
  rcases mid_split hs with ⟨A2, rfl, rfl⟩ | ⟨C1, rfl, rfl⟩
  · have hen := h.en A' x (A2 ++ e :: C) (by simp)
    by_cases hx : x.p = e.p
    · by_cases h2 : pt e.p A2 = []
      · rw [hpre A' x A2 rfl hx h2, hx, pt_append, h2, List.nil_append]
      · rw [ho1 A' x A2 rfl (fun hh => h2 hh.2), hen, hx, pt_append, pt_append, hp_append h2, hp_append h2]
    · rw [ho1 A' x A2 rfl (fun hh => hx hh.1), hen, pt_append, pt_append, pt_cons_other (Ne.symm hx)]
  · have hen := h.en (A ++ e :: C1) x C' (by simp)
    by_cases hx : x.p = e.p
    · by_cases h2 : pt e.p C1 = []
      · rw [hsuc C1 x C' rfl hx h2, hx, pt_append, h2, List.append_nil]
      · rw [ho2 C1 x C' rfl (fun hh => h2 hh.2), hen, hx, pt_append, pt_append, pt_cons_same rfl, lp_append h2, lp_append (by simp)]
        rw [show e :: pt e.p C1 = [e] ++ pt e.p C1 from rfl, lp_append h2]
    · rw [ho2 C1 x C' rfl (fun hh => hx hh.1), hen, pt_append, pt_append, pt_cons_other (Ne.symm hx)]
end Go.Proofs.Ytenmkigoohpfmaa
