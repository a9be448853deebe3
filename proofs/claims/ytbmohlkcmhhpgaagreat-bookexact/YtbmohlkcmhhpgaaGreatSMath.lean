/-
  SETS OF KEYS, AS LISTS THAT RISE.
-/
import Derived.Test.YtbmohlkcmhhpgaaGreatKMath
namespace Go.Proofs.YtbmohlkcmhhpgaaGreat

/-- a list that rises -/
def Rise (l : List K) : Prop := (∀ k ∈ l, isKey k = true) ∧ l.Pairwise (fun a b => lt a b = true)
instance (l : List K) : Decidable (Rise l) := by unfold Rise; infer_instance
theorem rise_nil : Rise [] := ⟨by simp, .nil⟩
theorem rise_cons {a : K} {l : List K} : Rise (a :: l) ↔ isKey a = true ∧ (∀ b ∈ l, lt a b = true) ∧ Rise l := by
  unfold Rise
  simp only [List.mem_cons, forall_eq_or_imp, List.pairwise_cons]
  constructor
  · rintro ⟨⟨h1, h2⟩, h3, h4⟩; exact ⟨h1, h3, h2, h4⟩
  · rintro ⟨h1, h3, h2, h4⟩; exact ⟨⟨h1, h2⟩, h3, h4⟩
theorem Rise.sub {l m : List K} (h : Rise l) (s : m.Sublist l) : Rise m := ⟨fun k hk => h.1 k (s.subset hk), h.2.sublist s⟩
theorem Rise.take {l : List K} (h : Rise l) (n : Nat) : Rise (l.take n) := h.sub (List.take_sublist n l)
theorem Rise.drop {l : List K} (h : Rise l) (n : Nat) : Rise (l.drop n) := h.sub (List.drop_sublist n l)
theorem rise_append {l m : List K} : Rise (l ++ m) ↔ Rise l ∧ Rise m ∧ ∀ a ∈ l, ∀ b ∈ m, lt a b = true := by
  unfold Rise
  rw [List.pairwise_append]
  simp only [List.mem_append]
  constructor
  · rintro ⟨h1, h2, h3, h4⟩; exact ⟨⟨fun k hk => h1 k (.inl hk), h2⟩, ⟨fun k hk => h1 k (.inr hk), h3⟩, h4⟩
  · rintro ⟨⟨h1, h2⟩, ⟨h3, h4⟩, h5⟩; exact ⟨fun k hk => hk.elim (h1 k) (h3 k), h2, h4, h5⟩
/-- one more at the end: it is above the last -/
theorem rise_snoc {l : List K} {x : K} (hl : Rise l) (hx : isKey x = true) (h : ∀ (i : Nat) (y : K), i + 1 = l.length → l[i]? = some y → lt y x = true) : Rise (l ++ [x]) := by
  rw [rise_append]
  refine ⟨hl, ⟨by simpa using hx, by simp⟩, ?_⟩
  intro a ha b hb
  simp at hb; subst hb
  have hne : l ≠ [] := by rintro rfl; simp at ha
  have e := List.dropLast_concat_getLast hne
  have hlast : lt (l.getLast hne) b = true := by
    refine h (l.length - 1) _ (by have := List.length_pos_iff.2 hne; omega) ?_
    rw [← List.getLast?_eq_getElem?, List.getLast?_eq_some_getLast hne]
  rw [← e, rise_append] at hl
  rw [← e, List.mem_append] at ha
  rcases ha with ha | ha
  · exact lt_trans (hl.2.2 a ha _ (by simp)) hlast
  · simp at ha; rw [ha]; exact hlast
/-- two that rise and have the same members are one -/
theorem rise_unique {l m : List K} (hl : Rise l) (hm : Rise m) (h : ∀ k, k ∈ l ↔ k ∈ m) : l = m := by
  induction l generalizing m with
  | nil => cases m with | nil => rfl | cons b m => exact absurd ((h b).2 (by simp)) (by simp)
  | cons a l ih =>
    cases m with
    | nil => exact absurd ((h a).1 (by simp)) (by simp)
    | cons b m =>
      rw [rise_cons] at hl hm
      have hab : a = b := by
        have h1 := (h a).1 (by simp)
        have h2 := (h b).2 (by simp)
        simp only [List.mem_cons] at h1 h2
        rcases h1 with h1 | h1
        · exact h1
        · rcases h2 with h2 | h2
          · exact h2.symm
          · have := hm.2.1 a h1
            have h4 := hl.2.1 b h2
            rw [lt_asymm this] at h4; cases h4
      subst hab
      congr 1
      refine ih hl.2.2 hm.2.2 fun k => ?_
      have := h k
      simp only [List.mem_cons] at this
      constructor
      · intro hk
        rcases this.1 (.inr hk) with e | e
        · rw [e] at hk; have := hl.2.1 a hk; rw [lt_irrefl] at this; cases this
        · exact e
      · intro hk
        rcases this.2 (.inr hk) with e | e
        · rw [e] at hk; have := hm.2.1 a hk; rw [lt_irrefl] at this; cases this
        · exact e

/-- a key put into a list that rises -/
def put (l : List K) (k : K) : List K := if k ∈ l then l else l.filter (fun x => lt x k) ++ k :: l.filter (fun x => lt k x)
theorem put_mem (l : List K) (k x : K) : x ∈ put l k ↔ x = k ∨ x ∈ l := by
  unfold put
  split
  · rename_i h
    constructor
    · exact .inr
    · rintro (rfl | h'); exact h; exact h'
  · rename_i h
    simp only [List.mem_append, List.mem_filter, List.mem_cons]
    constructor
    · rintro (⟨h1, _⟩ | h1 | ⟨h1, _⟩)
      · exact .inr h1
      · exact .inl h1
      · exact .inr h1
    · rintro (rfl | h1)
      · exact .inr (.inl rfl)
      · by_cases h2 : lt x k = true
        · exact .inl ⟨h1, h2⟩
        · by_cases h3 : lt k x = true
          · exact .inr (.inr ⟨h1, h3⟩)
          · exact .inr (.inl (eq_of_not_lt (by simpa using h2) (by simpa using h3)))
theorem put_rise {l : List K} {k : K} (hl : Rise l) (hk : isKey k = true) : Rise (put l k) := by
  unfold put
  split
  · exact hl
  · rw [rise_append, rise_cons]
    refine ⟨hl.sub List.filter_sublist, ⟨hk, fun b hb => (List.mem_filter.1 hb).2, hl.sub List.filter_sublist⟩, ?_⟩
    intro a ha b hb
    have h1 := (List.mem_filter.1 ha).2
    rw [List.mem_cons] at hb
    rcases hb with rfl | hb
    · exact h1
    · exact lt_trans h1 (List.mem_filter.1 hb).2
/-- the set of a list -/
def sortK (l : List K) : List K := l.foldl put []
theorem sortK_snoc (l : List K) (k : K) : sortK (l ++ [k]) = put (sortK l) k := by simp [sortK]
theorem sortK_mem (l : List K) (x : K) : x ∈ sortK l ↔ x ∈ l := by
  suffices H : ∀ n, ∀ l : List K, l.length = n → (x ∈ sortK l ↔ x ∈ l) from H _ l rfl
  intro n
  induction n with
  | zero => intro l hl; cases l with | nil => simp [sortK] | cons => simp at hl
  | succ n ih =>
    intro l hl
    have hne : l ≠ [] := by rintro rfl; simp at hl
    rw [← List.dropLast_concat_getLast hne, sortK_snoc, put_mem, ih _ (by simp; omega)]
    simp only [List.mem_append, List.mem_singleton]
    exact Or.comm
theorem sortK_rise {l : List K} (h : ∀ k ∈ l, isKey k = true) : Rise (sortK l) := by
  suffices H : ∀ n, ∀ l : List K, l.length = n → (∀ k ∈ l, isKey k = true) → Rise (sortK l) from H _ l rfl h
  intro n
  induction n with
  | zero => intro l hl _; cases l with | nil => exact rise_nil | cons => simp at hl
  | succ n ih =>
    intro l hl h
    have hne : l ≠ [] := by rintro rfl; simp at hl
    rw [← List.dropLast_concat_getLast hne] at h ⊢
    rw [sortK_snoc]
    exact put_rise (ih _ (by simp; omega) fun k hk => h k (by simp [hk])) (h _ (by simp))
/-- what rises and has a list's members is its set -/
theorem sortK_eq {l m : List K} (hm : Rise m) (h : ∀ k, k ∈ m ↔ k ∈ l) : m = sortK l :=
  rise_unique hm (sortK_rise fun k hk => hm.1 k ((h k).2 hk)) fun k => (h k).trans (sortK_mem l k).symm
theorem sortK_length (l : List K) : (sortK l).length ≤ l.length := by
  suffices H : ∀ n, ∀ l : List K, l.length = n → (sortK l).length ≤ l.length from H _ l rfl
  intro n
  induction n with
  | zero => intro l hl; cases l with | nil => simp [sortK] | cons => simp at hl
  | succ n ih =>
    intro l hl
    have hne : l ≠ [] := by rintro rfl; simp at hl
    have := ih l.dropLast (by simp; omega)
    rw [← List.dropLast_concat_getLast hne, sortK_snoc]
    simp only [List.length_append, List.length_cons, List.length_nil]
    refine Nat.le_trans ?_ (Nat.add_le_add_right this 1)
    generalize sortK l.dropLast = s
    unfold put
    split
    · omega
    · have hd : ∀ s : List K, (s.filter (fun x => lt x (l.getLast hne))).length + (s.filter (fun x => lt (l.getLast hne) x)).length ≤ s.length := by
        intro s
        induction s with
        | nil => simp
        | cons a s ih =>
          simp only [List.filter_cons]
          by_cases h1 : lt a (l.getLast hne) = true
          · simp [h1, lt_asymm h1]; omega
          · by_cases h2 : lt (l.getLast hne) a = true
            · simp [h1, h2]; omega
            · simp [h1, h2]; omega
      have := hd s
      simp; omega

/-- Union, Meet, Minus: the keys that are wanted, by which of the two lists they stand in -/
def choose (f : Bool → Bool → Bool) : Nat → List K → List K → List K
  | 0, _, _ => []
  | _ + 1, [], [] => []
  | n + 1, a :: xa, [] => (if f true false then [a] else []) ++ choose f n xa []
  | n + 1, [], b :: bs => (if f false true then [b] else []) ++ choose f n [] bs
  | n + 1, a :: xa, b :: bs =>
    if a = b then (if f true true then [a] else []) ++ choose f n xa bs
    else if lt a b then (if f true false then [a] else []) ++ choose f n xa (b :: bs)
    else (if f false true then [b] else []) ++ choose f n (a :: xa) bs
theorem mem_ite1 {c : Bool} {a k : K} : k ∈ (if c then [a] else []) ↔ c = true ∧ k = a := by cases c <;> simp
theorem choose_mem (f : Bool → Bool → Bool) (hf : f false false = false) (n : Nat) (a b : List K) (hn : a.length + b.length ≤ n) (ha : Rise a) (hb : Rise b) (k : K) :
    k ∈ choose f n a b ↔ f (decide (k ∈ a)) (decide (k ∈ b)) = true := by
  induction n generalizing a b with
  | zero =>
    obtain ⟨rfl, rfl⟩ : a = [] ∧ b = [] := by
      constructor <;> (apply List.eq_nil_of_length_eq_zero; omega)
    simp [choose, hf]
  | succ n ih =>
    cases a with
    | nil =>
      cases b with
      | nil => simp [choose, hf]
      | cons b bs =>
        rw [rise_cons] at hb
        simp only [choose, List.mem_append, mem_ite1]
        rw [ih [] bs (by simp at hn ⊢; omega) ha hb.2.2]
        by_cases hk : k = b
        · subst hk
          have : k ∉ bs := fun h => by have := hb.2.1 k h; rw [lt_irrefl] at this; cases this
          simp [this, hf]
        · simp [hk]
    | cons a xa =>
      cases b with
      | nil =>
        rw [rise_cons] at ha
        simp only [choose, List.mem_append, mem_ite1]
        rw [ih xa [] (by simp at hn ⊢; omega) ha.2.2 hb]
        by_cases hk : k = a
        · subst hk
          have : k ∉ xa := fun h => by have := ha.2.1 k h; rw [lt_irrefl] at this; cases this
          simp [this, hf]
        · simp [hk]
      | cons b bs =>
        have ha' := ha; have hb' := hb
        rw [rise_cons] at ha hb
        have hna : a ∉ xa := fun h => by have := ha.2.1 a h; rw [lt_irrefl] at this; cases this
        have hnb : b ∉ bs := fun h => by have := hb.2.1 b h; rw [lt_irrefl] at this; cases this
        simp only [choose]
        by_cases hab : a = b
        · subst hab
          simp only [if_true, List.mem_append, mem_ite1]
          rw [ih xa bs (by simp at hn ⊢; omega) ha.2.2 hb.2.2]
          by_cases hk : k = a
          · subst hk; simp [hna, hnb, hf]
          · simp [hk]
        · rw [if_neg hab]
          by_cases hlt : lt a b = true
          · rw [if_pos hlt]
            simp only [List.mem_append, mem_ite1]
            rw [ih xa (b :: bs) (by simp at hn ⊢; omega) ha.2.2 hb']
            by_cases hk : k = a
            · subst hk
              have h2 : k ∉ bs := fun h => by have := lt_trans hlt (hb.2.1 k h); rw [lt_irrefl] at this; cases this
              simp [hna, hab, h2, hf]
            · simp [hk]
          · rw [if_neg hlt]
            simp only [List.mem_append, mem_ite1]
            have hgt : lt b a = true := by
              by_cases h : lt b a = true
              · exact h
              · exact absurd (eq_of_not_lt (by simpa using hlt) (by simpa using h)) hab
            rw [ih (a :: xa) bs (by simp at hn ⊢; omega) ha' hb.2.2]
            by_cases hk : k = b
            · subst hk
              have h2 : k ∉ xa := fun h => by have := lt_trans hgt (ha.2.1 k h); rw [lt_irrefl] at this; cases this
              simp [hnb, Ne.symm hab, h2, hf]
            · simp [hk]
theorem choose_sub (f : Bool → Bool → Bool) (n : Nat) (a b : List K) : ∀ k ∈ choose f n a b, k ∈ a ∨ k ∈ b := by
  induction n generalizing a b with
  | zero => simp [choose]
  | succ n ih =>
    intro k hk
    cases a with
    | nil =>
      cases b with
      | nil => simp [choose] at hk
      | cons b bs =>
        simp only [choose, List.mem_append, mem_ite1] at hk
        rcases hk with hk | hk
        · simp [hk.2]
        · rcases ih _ _ k hk with h | h <;> simp_all
    | cons a xa =>
      cases b with
      | nil =>
        simp only [choose, List.mem_append, mem_ite1] at hk
        rcases hk with hk | hk
        · simp [hk.2]
        · rcases ih _ _ k hk with h | h <;> simp_all
      | cons b bs =>
        simp only [choose] at hk
        split at hk
        · simp only [List.mem_append, mem_ite1] at hk
          rcases hk with hk | hk
          · simp [hk.2]
          · rcases ih _ _ k hk with h | h <;> simp_all
        · split at hk
          · simp only [List.mem_append, mem_ite1] at hk
            rcases hk with hk | hk
            · simp [hk.2]
            · rcases ih _ _ k hk with h | h
              · simp_all
              · exact .inr h
          · simp only [List.mem_append, mem_ite1] at hk
            rcases hk with hk | hk
            · simp [hk.2]
            · rcases ih _ _ k hk with h | h
              · exact .inl h
              · simp_all
theorem rise_ite1 {c : Bool} {a : K} {l : List K} (ha : isKey a = true) (hl : Rise l) (h : ∀ b ∈ l, lt a b = true) : Rise ((if c then [a] else []) ++ l) := by
  cases c
  · simpa using hl
  · simp only [if_true, List.singleton_append, rise_cons]; exact ⟨ha, h, hl⟩
theorem choose_rise (f : Bool → Bool → Bool) (n : Nat) (a b : List K) (ha : Rise a) (hb : Rise b) : Rise (choose f n a b) := by
  induction n generalizing a b with
  | zero => exact rise_nil
  | succ n ih =>
    cases a with
    | nil =>
      cases b with
      | nil => exact rise_nil
      | cons b bs =>
        rw [rise_cons] at hb
        refine rise_ite1 hb.1 (ih _ _ ha hb.2.2) fun k hk => ?_
        rcases choose_sub f n _ _ k hk with h | h
        · simp at h
        · exact hb.2.1 k h
    | cons a xa =>
      cases b with
      | nil =>
        rw [rise_cons] at ha
        refine rise_ite1 ha.1 (ih _ _ ha.2.2 hb) fun k hk => ?_
        rcases choose_sub f n _ _ k hk with h | h
        · exact ha.2.1 k h
        · simp at h
      | cons b bs =>
        have ha' := ha; have hb' := hb
        rw [rise_cons] at ha hb
        simp only [choose]
        by_cases hab : a = b
        · subst hab
          rw [if_pos rfl]
          refine rise_ite1 ha.1 (ih _ _ ha.2.2 hb.2.2) fun k hk => ?_
          rcases choose_sub f n _ _ k hk with h | h
          · exact ha.2.1 k h
          · exact hb.2.1 k h
        · rw [if_neg hab]
          by_cases hlt : lt a b = true
          · rw [if_pos hlt]
            refine rise_ite1 ha.1 (ih _ _ ha.2.2 hb') fun k hk => ?_
            rcases choose_sub f n _ _ k hk with h | h
            · exact ha.2.1 k h
            · rw [List.mem_cons] at h
              rcases h with rfl | h
              · exact hlt
              · exact lt_trans hlt (hb.2.1 k h)
          · have hgt : lt b a = true := by
              by_cases h : lt b a = true
              · exact h
              · exact absurd (eq_of_not_lt (by simpa using hlt) (by simpa using h)) hab
            rw [if_neg hlt]
            refine rise_ite1 hb.1 (ih _ _ ha' hb.2.2) fun k hk => ?_
            rcases choose_sub f n _ _ k hk with h | h
            · rw [List.mem_cons] at h
              rcases h with rfl | h
              · exact hgt
              · exact lt_trans hgt (ha.2.1 k h)
            · exact hb.2.1 k h
theorem choose_union {a b : List K} (n : Nat) (hn : a.length + b.length ≤ n) (ha : Rise a) (hb : Rise b) : choose (fun x y => x || y) n a b = sortK (a ++ b) := by
  refine sortK_eq (choose_rise _ n a b ha hb) fun k => ?_
  rw [choose_mem _ rfl n a b hn ha hb]; simp
theorem choose_meet {a b : List K} (n : Nat) (hn : a.length + b.length ≤ n) (ha : Rise a) (hb : Rise b) : choose (fun x y => x && y) n a b = a.filter (fun k => decide (k ∈ b)) := by
  refine rise_unique (choose_rise _ n a b ha hb) (ha.sub List.filter_sublist) fun k => ?_
  rw [choose_mem _ rfl n a b hn ha hb]; simp
theorem choose_minus {a b : List K} (n : Nat) (hn : a.length + b.length ≤ n) (ha : Rise a) (hb : Rise b) : choose (fun x y => x && !y) n a b = a.filter (fun k => !decide (k ∈ b)) := by
  refine rise_unique (choose_rise _ n a b ha hb) (ha.sub List.filter_sublist) fun k => ?_
  rw [choose_mem _ rfl n a b hn ha hb]; simp

end Go.Proofs.YtbmohlkcmhhpgaaGreat
