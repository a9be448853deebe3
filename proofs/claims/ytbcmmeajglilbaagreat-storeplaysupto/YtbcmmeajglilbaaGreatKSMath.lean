import Derived.Test.YtbcmmeajglilbaaGreatKKMath
import Derived.Test.YtbcmmeajglilbaaGreatKSRemV
/-
  SETS OF KEYS, AS LISTS THAT RISE.
-/
namespace Go.Proofs.YtbcmmeajglilbaaGreat

/-- a list that rises -/
def Rise (l : List K) : Prop := (∀ k ∈ l, isKey k = true) ∧ l.Pairwise (fun a b => lt a b = true)
instance (l : List K) : Decidable (Rise l) := by unfold Rise; infer_instance
theorem rise_nil : Rise [] := ⟨by simp, .nil⟩
theorem rise_cons {a : K} {l : List K} : Rise (a :: l) ↔ isKey a = true ∧ (∀ b ∈ l, lt a b = true) ∧ Rise l := by
  unfold Rise
  simp only [List.mem_cons, forall_eq_or_imp, List.pairwise_cons]
  constructor
  · rintro ⟨⟨h1, h2⟩, h3, h4⟩; exact ⟨h1, h3, h2, h4⟩
  · rintro ⟨h1, h3, h2, h4⟩; exact ⟨⟨h1, h2⟩, h3, h4⟩
theorem Rise.sub {l m : List K} (h : Rise l) (s : m.Sublist l) : Rise m := ⟨fun k hk => h.1 k (s.subset hk), h.2.sublist s⟩
theorem Rise.take {l : List K} (h : Rise l) (n : Nat) : Rise (l.take n) := h.sub (List.take_sublist n l)
theorem Rise.drop {l : List K} (h : Rise l) (n : Nat) : Rise (l.drop n) := h.sub (List.drop_sublist n l)
theorem rise_append {l m : List K} : Rise (l ++ m) ↔ Rise l ∧ Rise m ∧ ∀ a ∈ l, ∀ b ∈ m, lt a b = true := by
  unfold Rise
  rw [List.pairwise_append]
  simp only [List.mem_append]
  constructor
  · rintro ⟨h1, h2, h3, h4⟩; exact ⟨⟨fun k hk => h1 k (.inl hk), h2⟩, ⟨fun k hk => h1 k (.inr hk), h3⟩, h4⟩
  · rintro ⟨⟨h1, h2⟩, ⟨h3, h4⟩, h5⟩; exact ⟨fun k hk => hk.elim (h1 k) (h3 k), h2, h4, h5⟩
/-- one more at the end: it is above the last -/
theorem rise_snoc {l : List K} {x : K} (hl : Rise l) (hx : isKey x = true) (h : ∀ (i : Nat) (y : K), i + 1 = l.length → l[i]? = some y → lt y x = true) : Rise (l ++ [x]) := by
  rw [rise_append]
  refine ⟨hl, ⟨by simpa using hx, by simp⟩, ?_⟩
  intro a ha b hb
  simp at hb; subst hb
  have hne : l ≠ [] := by rintro rfl; simp at ha
  have e := List.dropLast_concat_getLast hne
  have hlast : lt (l.getLast hne) b = true := by
    refine h (l.length - 1) _ (by have := List.length_pos_iff.2 hne; omega) ?_
    rw [← List.getLast?_eq_getElem?, List.getLast?_eq_some_getLast hne]
  rw [← e, rise_append] at hl
  rw [← e, List.mem_append] at ha
  rcases ha with ha | ha
  · exact lt_trans (hl.2.2 a ha _ (by simp)) hlast
  · simp at ha; rw [ha]; exact hlast
/-- two that rise and have the same members are one -/
theorem rise_unique {l m : List K} (hl : Rise l) (hm : Rise m) (h : ∀ k, k ∈ l ↔ k ∈ m) : l = m := by
  induction l generalizing m with
  | nil => cases m with | nil => rfl | cons b m => exact absurd ((h b).2 (by simp)) (by simp)
  | cons a l ih =>
    cases m with
    | nil => exact absurd ((h a).1 (by simp)) (by simp)
    | cons b m =>
      rw [rise_cons] at hl hm
      have hab : a = b := by
        have h1 := (h a).1 (by simp)
        have h2 := (h b).2 (by simp)
        simp only [List.mem_cons] at h1 h2
        rcases h1 with h1 | h1
        · exact h1
        · rcases h2 with h2 | h2
          · exact h2.symm
          · have := hm.2.1 a h1
            have h4 := hl.2.1 b h2
            rw [lt_asymm this] at h4; cases h4
      subst hab
      congr 1
      refine ih hl.2.2 hm.2.2 fun k => ?_
      have := h k
      simp only [List.mem_cons] at this
      constructor
      · intro hk
        rcases this.1 (.inr hk) with e | e
        · rw [e] at hk; have := hl.2.1 a hk; rw [lt_irrefl] at this; cases this
        · exact e
      · intro hk
        rcases this.2 (.inr hk) with e | e
        · rw [e] at hk; have := hm.2.1 a hk; rw [lt_irrefl] at this; cases this
        · exact e

/-- a key put into a list that rises -/
def put (l : List K) (k : K) : List K := if k ∈ l then l else l.filter (fun x => lt x k) ++ k :: l.filter (fun x => lt k x)
theorem put_mem (l : List K) (k x : K) : x ∈ put l k ↔ x = k ∨ x ∈ l := by
  unfold put
  split
  · rename_i h
    constructor
    · exact .inr
    · rintro (rfl | h'); exact h; exact h'
  · rename_i h
    simp only [List.mem_append, List.mem_filter, List.mem_cons]
    constructor
    · rintro (⟨h1, _⟩ | h1 | ⟨h1, _⟩)
      · exact .inr h1
      · exact .inl h1
      · exact .inr h1
    · rintro (rfl | h1)
      · exact .inr (.inl rfl)
      · by_cases h2 : lt x k = true
        · exact .inl ⟨h1, h2⟩
        · by_cases h3 : lt k x = true
          · exact .inr (.inr ⟨h1, h3⟩)
          · exact .inr (.inl (eq_of_not_lt (by simpa using h2) (by simpa using h3)))
theorem put_rise {l : List K} {k : K} (hl : Rise l) (hk : isKey k = true) : Rise (put l k) := by
  unfold put
  split
  · exact hl
  · rw [rise_append, rise_cons]
    refine ⟨hl.sub List.filter_sublist, ⟨hk, fun b hb => (List.mem_filter.1 hb).2, hl.sub List.filter_sublist⟩, ?_⟩
    intro a ha b hb
    have h1 := (List.mem_filter.1 ha).2
    rw [List.mem_cons] at hb
    rcases hb with rfl | hb
    · exact h1
    · exact lt_trans h1 (List.mem_filter.1 hb).2
/-- the set of a list -/
def sortK (l : List K) : List K := l.foldl put []
theorem sortK_snoc (l : List K) (k : K) : sortK (l ++ [k]) = put (sortK l) k := by simp [sortK]
theorem sortK_mem (l : List K) (x : K) : x ∈ sortK l ↔ x ∈ l := by
  suffices H : ∀ n, ∀ l : List K, l.length = n → (x ∈ sortK l ↔ x ∈ l) from H _ l rfl
  intro n
  induction n with
  | zero => intro l hl; cases l with | nil => simp [sortK] | cons => simp at hl
  | succ n ih =>
    intro l hl
    have hne : l ≠ [] := by rintro rfl; simp at hl
    rw [← List.dropLast_concat_getLast hne, sortK_snoc, put_mem, ih _ (by simp; omega)]
    simp only [List.mem_append, List.mem_singleton]
    exact Or.comm
theorem sortK_rise {l : List K} (h : ∀ k ∈ l, isKey k = true) : Rise (sortK l) := by
  suffices H : ∀ n, ∀ l : List K, l.length = n → (∀ k ∈ l, isKey k = true) → Rise (sortK l) from H _ l rfl h
  intro n
  induction n with
  | zero => intro l hl _; cases l with | nil => exact rise_nil | cons => simp at hl
  | succ n ih =>
    intro l hl h
    have hne : l ≠ [] := by rintro rfl; simp at hl
    rw [← List.dropLast_concat_getLast hne] at h ⊢
    rw [sortK_snoc]
    exact put_rise (ih _ (by simp; omega) fun k hk => h k (by simp [hk])) (h _ (by simp))
/-- what rises and has a list's members is its set -/
theorem sortK_eq {l m : List K} (hm : Rise m) (h : ∀ k, k ∈ m ↔ k ∈ l) : m = sortK l :=
  rise_unique hm (sortK_rise fun k hk => hm.1 k ((h k).2 hk)) fun k => (h k).trans (sortK_mem l k).symm
theorem sortK_length (l : List K) : (sortK l).length ≤ l.length := by
  suffices H : ∀ n, ∀ l : List K, l.length = n → (sortK l).length ≤ l.length from H _ l rfl
  intro n
  induction n with
  | zero => intro l hl; cases l with | nil => simp [sortK] | cons => simp at hl
  | succ n ih =>
    intro l hl
    have hne : l ≠ [] := by rintro rfl; simp at hl
    have := ih l.dropLast (by simp; omega)
    rw [← List.dropLast_concat_getLast hne, sortK_snoc]
    simp only [List.length_append, List.length_cons, List.length_nil]
    refine Nat.le_trans ?_ (Nat.add_le_add_right this 1)
    generalize sortK l.dropLast = s
    unfold put
    split
    · omega
    · have hd : ∀ s : List K, (s.filter (fun x => lt x (l.getLast hne))).length + (s.filter (fun x => lt (l.getLast hne) x)).length ≤ s.length := by
        intro s
        induction s with
        | nil => simp
        | cons a s ih =>
          simp only [List.filter_cons]
          by_cases h1 : lt a (l.getLast hne) = true
          · simp [h1, lt_asymm h1]; omega
          · by_cases h2 : lt (l.getLast hne) a = true
            · simp [h1, h2]; omega
            · simp [h1, h2]; omega
      have := hd s
      simp; omega

/-- Union, Meet, Minus: the keys that are wanted, by which of the two lists they stand in -/
def choose (f : Bool → Bool → Bool) : Nat → List K → List K → List K
  | 0, _, _ => []
  | _ + 1, [], [] => []
  | n + 1, a :: xa, [] => (if f true false then [a] else []) ++ choose f n xa []
  | n + 1, [], b :: bs => (if f false true then [b] else []) ++ choose f n [] bs
  | n + 1, a :: xa, b :: bs =>
    if a = b then (if f true true then [a] else []) ++ choose f n xa bs
    else if lt a b then (if f true false then [a] else []) ++ choose f n xa (b :: bs)
    else (if f false true then [b] else []) ++ choose f n (a :: xa) bs
theorem mem_ite1 {c : Bool} {a k : K} : k ∈ (if c then [a] else []) ↔ c = true ∧ k = a := by cases c <;> simp
theorem choose_mem (f : Bool → Bool → Bool) (hf : f false false = false) (n : Nat) (a b : List K) (hn : a.length + b.length ≤ n) (ha : Rise a) (hb : Rise b) (k : K) :
    k ∈ choose f n a b ↔ f (decide (k ∈ a)) (decide (k ∈ b)) = true := by
  induction n generalizing a b with
  | zero =>
    obtain ⟨rfl, rfl⟩ : a = [] ∧ b = [] := by
      constructor <;> (apply List.eq_nil_of_length_eq_zero; omega)
    simp [choose, hf]
  | succ n ih =>
    cases a with
    | nil =>
      cases b with
      | nil => simp [choose, hf]
      | cons b bs =>
        rw [rise_cons] at hb
        simp only [choose, List.mem_append, mem_ite1]
        rw [ih [] bs (by simp at hn ⊢; omega) ha hb.2.2]
        by_cases hk : k = b
        · subst hk
          have : k ∉ bs := fun h => by have := hb.2.1 k h; rw [lt_irrefl] at this; cases this
          simp [this, hf]
        · simp [hk]
    | cons a xa =>
      cases b with
      | nil =>
        rw [rise_cons] at ha
        simp only [choose, List.mem_append, mem_ite1]
        rw [ih xa [] (by simp at hn ⊢; omega) ha.2.2 hb]
        by_cases hk : k = a
        · subst hk
          have : k ∉ xa := fun h => by have := ha.2.1 k h; rw [lt_irrefl] at this; cases this
          simp [this, hf]
        · simp [hk]
      | cons b bs =>
        have ha' := ha; have hb' := hb
        rw [rise_cons] at ha hb
        have hna : a ∉ xa := fun h => by have := ha.2.1 a h; rw [lt_irrefl] at this; cases this
        have hnb : b ∉ bs := fun h => by have := hb.2.1 b h; rw [lt_irrefl] at this; cases this
        simp only [choose]
        by_cases hab : a = b
        · subst hab
          simp only [if_true, List.mem_append, mem_ite1]
          rw [ih xa bs (by simp at hn ⊢; omega) ha.2.2 hb.2.2]
          by_cases hk : k = a
          · subst hk; simp [hna, hnb, hf]
          · simp [hk]
        · rw [if_neg hab]
          by_cases hlt : lt a b = true
          · rw [if_pos hlt]
            simp only [List.mem_append, mem_ite1]
            rw [ih xa (b :: bs) (by simp at hn ⊢; omega) ha.2.2 hb']
            by_cases hk : k = a
            · subst hk
              have h2 : k ∉ bs := fun h => by have := lt_trans hlt (hb.2.1 k h); rw [lt_irrefl] at this; cases this
              simp [hna, hab, h2, hf]
            · simp [hk]
          · rw [if_neg hlt]
            simp only [List.mem_append, mem_ite1]
            have hgt : lt b a = true := by
              by_cases h : lt b a = true
              · exact h
              · exact absurd (eq_of_not_lt (by simpa using hlt) (by simpa using h)) hab
            rw [ih (a :: xa) bs (by simp at hn ⊢; omega) ha' hb.2.2]
            by_cases hk : k = b
            · subst hk
              have h2 : k ∉ xa := fun h => by have := lt_trans hgt (ha.2.1 k h); rw [lt_irrefl] at this; cases this
              simp [hnb, Ne.symm hab, h2, hf]
            · simp [hk]
theorem choose_sub (f : Bool → Bool → Bool) (n : Nat) (a b : List K) : ∀ k ∈ choose f n a b, k ∈ a ∨ k ∈ b := by
  induction n generalizing a b with
  | zero => simp [choose]
  | succ n ih =>
    intro k hk
    cases a with
    | nil =>
      cases b with
      | nil => simp [choose] at hk
      | cons b bs =>
        simp only [choose, List.mem_append, mem_ite1] at hk
        rcases hk with hk | hk
        · simp [hk.2]
        · rcases ih _ _ k hk with h | h <;> simp_all
    | cons a xa =>
      cases b with
      | nil =>
        simp only [choose, List.mem_append, mem_ite1] at hk
        rcases hk with hk | hk
        · simp [hk.2]
        · rcases ih _ _ k hk with h | h <;> simp_all
      | cons b bs =>
        simp only [choose] at hk
        split at hk
        · simp only [List.mem_append, mem_ite1] at hk
          rcases hk with hk | hk
          · simp [hk.2]
          · rcases ih _ _ k hk with h | h <;> simp_all
        · split at hk
          · simp only [List.mem_append, mem_ite1] at hk
            rcases hk with hk | hk
            · simp [hk.2]
            · rcases ih _ _ k hk with h | h
              · simp_all
              · exact .inr h
          · simp only [List.mem_append, mem_ite1] at hk
            rcases hk with hk | hk
            · simp [hk.2]
            · rcases ih _ _ k hk with h | h
              · exact .inl h
              · simp_all
theorem rise_ite1 {c : Bool} {a : K} {l : List K} (ha : isKey a = true) (hl : Rise l) (h : ∀ b ∈ l, lt a b = true) : Rise ((if c then [a] else []) ++ l) := by
  cases c
  · simpa using hl
  · simp only [if_true, List.singleton_append, rise_cons]; exact ⟨ha, h, hl⟩
theorem choose_rise (f : Bool → Bool → Bool) (n : Nat) (a b : List K) (ha : Rise a) (hb : Rise b) : Rise (choose f n a b) := by
  induction n generalizing a b with
  | zero => exact rise_nil
  | succ n ih =>
    cases a with
    | nil =>
      cases b with
      | nil => exact rise_nil
      | cons b bs =>
        rw [rise_cons] at hb
        refine rise_ite1 hb.1 (ih _ _ ha hb.2.2) fun k hk => ?_
        rcases choose_sub f n _ _ k hk with h | h
        · simp at h
        · exact hb.2.1 k h
    | cons a xa =>
      cases b with
      | nil =>
        rw [rise_cons] at ha
        refine rise_ite1 ha.1 (ih _ _ ha.2.2 hb) fun k hk => ?_
        rcases choose_sub f n _ _ k hk with h | h
        · exact ha.2.1 k h
        · simp at h
      | cons b bs =>
        have ha' := ha; have hb' := hb
        rw [rise_cons] at ha hb
        simp only [choose]
        by_cases hab : a = b
        · subst hab
          rw [if_pos rfl]
          refine rise_ite1 ha.1 (ih _ _ ha.2.2 hb.2.2) fun k hk => ?_
          rcases choose_sub f n _ _ k hk with h | h
          · exact ha.2.1 k h
          · exact hb.2.1 k h
        · rw [if_neg hab]
          by_cases hlt : lt a b = true
          · rw [if_pos hlt]
            refine rise_ite1 ha.1 (ih _ _ ha.2.2 hb') fun k hk => ?_
            rcases choose_sub f n _ _ k hk with h | h
            · exact ha.2.1 k h
            · rw [List.mem_cons] at h
              rcases h with rfl | h
              · exact hlt
              · exact lt_trans hlt (hb.2.1 k h)
          · have hgt : lt b a = true := by
              by_cases h : lt b a = true
              · exact h
              · exact absurd (eq_of_not_lt (by simpa using hlt) (by simpa using h)) hab
            rw [if_neg hlt]
            refine rise_ite1 hb.1 (ih _ _ ha' hb.2.2) fun k hk => ?_
            rcases choose_sub f n _ _ k hk with h | h
            · rw [List.mem_cons] at h
              rcases h with rfl | h
              · exact hgt
              · exact lt_trans hgt (ha.2.1 k h)
            · exact hb.2.1 k h
theorem choose_union {a b : List K} (n : Nat) (hn : a.length + b.length ≤ n) (ha : Rise a) (hb : Rise b) : choose (fun x y => x || y) n a b = sortK (a ++ b) := by
  refine sortK_eq (choose_rise _ n a b ha hb) fun k => ?_
  rw [choose_mem _ rfl n a b hn ha hb]; simp
theorem choose_meet {a b : List K} (n : Nat) (hn : a.length + b.length ≤ n) (ha : Rise a) (hb : Rise b) : choose (fun x y => x && y) n a b = a.filter (fun k => decide (k ∈ b)) := by
  refine rise_unique (choose_rise _ n a b ha hb) (ha.sub List.filter_sublist) fun k => ?_
  rw [choose_mem _ rfl n a b hn ha hb]; simp
theorem choose_minus {a b : List K} (n : Nat) (hn : a.length + b.length ≤ n) (ha : Rise a) (hb : Rise b) : choose (fun x y => x && !y) n a b = a.filter (fun k => !decide (k ∈ b)) := by
  refine rise_unique (choose_rise _ n a b ha hb) (ha.sub List.filter_sublist) fun k => ?_
  rw [choose_mem _ rfl n a b hn ha hb]; simp

end Go.Proofs.YtbcmmeajglilbaaGreat
/-
  StoreChains: THE MATHEMATICS.
-/
namespace Go.Proofs.YtbcmmeajglilbaaGreat
open Go.RowKit Go.Sort

/-- the last one's number -/
def lastN (ys : List Vr) : Int := match ys.getLast? with | none => 0 | some v => v.n
theorem newestN_last (k : K) (vs : List Vr) : newestN k vs = lastN (ofK k vs) := rfl
theorem lastN_snoc (ys : List Vr) (y : Vr) : lastN (ys ++ [y]) = y.n := by simp [lastN]
theorem lastN_nil : lastN [] = 0 := rfl
theorem aheadN_last (A C : List Vr) : aheadN (A ++ C) A.length = lastN A := by
  unfold aheadN lastN
  rcases Nat.eq_zero_or_pos A.length with h0 | h0
  · have : A = [] := List.length_eq_zero_iff.1 h0
    subst this
    rfl
  · have hne : A ≠ [] := List.length_pos_iff.1 h0
    rw [if_neg (by omega), List.getLast?_eq_some_getLast hne]
    simp only
    rw [getElem!_pos _ (A.length - 1) (by simp; omega), List.getElem_append_left (by omega), List.getLast_eq_getElem]
/-- how many versions have one of these keys -/
def inL (L : List K) (ws : List Vr) : Nat := (ws.filter (fun v => decide (v.k ∈ L))).length
theorem inL_nil (ws : List Vr) : inL [] ws = 0 := by simp [inL]
theorem inL_snoc (L : List K) (k : K) (h : k ∉ L) : ∀ ws : List Vr, inL (L ++ [k]) ws = inL L ws + (ofK k ws).length
  | [] => rfl
  | v :: ws => by
    have ih := inL_snoc L k h ws
    unfold inL ofK at *
    by_cases h1 : v.k = k
    · have h2 : v.k ∉ L := by rw [h1]; exact h
      rw [List.filter_cons_of_pos (by simp [h1]), List.filter_cons_of_neg (by simp [h2]), List.filter_cons_of_pos (by simp [h1])]
      simp only [List.length_cons]
      omega
    · by_cases h2 : v.k ∈ L
      · rw [List.filter_cons_of_pos (by simp [h2]), List.filter_cons_of_pos (by simp [h2]), List.filter_cons_of_neg (by simp [h1])]
        simp only [List.length_cons]
        omega
      · rw [List.filter_cons_of_neg (by simp [h1, h2]), List.filter_cons_of_neg (by simp [h2]), List.filter_cons_of_neg (by simp [h1])]
        exact ih
/-- how many lie in partitions below p -/
def totP (P : Nat) (p : Int) (ws : List Vr) : Nat := (ws.filter (fun v => decide (((hash v.k % P : Nat) : Int) < p))).length
theorem totP_low (P : Nat) (ws : List Vr) : totP P (-1) ws = 0 := by
  unfold totP
  rw [List.filter_eq_nil_iff.2 (fun v _ => by simp; omega)]
  rfl
theorem totP_all {P : Nat} (hP : 1 ≤ P) {p : Int} (hp : (P : Int) ≤ p) (ws : List Vr) : totP P p ws = ws.length := by
  unfold totP
  rw [List.filter_eq_self.2 (fun v _ => by have := Nat.mod_lt (hash v.k) (show 0 < P by omega); simp; omega)]
theorem totP_step (P : Nat) (p : Int) : ∀ ws : List Vr, totP P (p + 1) ws = totP P p ws + (ws.filter (fun v => decide (((hash v.k % P : Nat) : Int) = p))).length
  | [] => rfl
  | v :: ws => by
    have ih := totP_step P p ws
    unfold totP at *
    by_cases h1 : ((hash v.k % P : Nat) : Int) = p
    · rw [List.filter_cons_of_pos (by simp only [decide_eq_true_eq]; omega), List.filter_cons_of_neg (by simp only [decide_eq_true_eq]; omega), List.filter_cons_of_pos (by simp only [decide_eq_true_eq]; omega)]
      simp only [List.length_cons]
      omega
    · by_cases h2 : ((hash v.k % P : Nat) : Int) < p
      · rw [List.filter_cons_of_pos (by simp only [decide_eq_true_eq]; omega), List.filter_cons_of_pos (by simp only [decide_eq_true_eq]; omega), List.filter_cons_of_neg (by simp only [decide_eq_true_eq]; omega)]
        simp only [List.length_cons]
        omega
      · rw [List.filter_cons_of_neg (by simp only [decide_eq_true_eq]; omega), List.filter_cons_of_neg (by simp only [decide_eq_true_eq]; omega), List.filter_cons_of_neg (by simp only [decide_eq_true_eq]; omega)]
        exact ih
/-- a partition's keys -/
def KsOf (P : Nat) (p : Int) (ws : List Vr) (L : List K) : Prop := Rise L ∧ ∀ k, k ∈ L ↔ (∃ v ∈ ws, v.k = k) ∧ ((hash k % P : Nat) : Int) = p
theorem inL_part {P : Nat} {p : Int} {ws : List Vr} {L : List K} (h : KsOf P p ws L) : inL L ws = (ws.filter (fun v => decide (((hash v.k % P : Nat) : Int) = p))).length := by
  unfold inL
  congr 1
  refine List.filter_congr fun v hv => ?_
  rw [decide_eq_decide, h.2]
  exact ⟨fun h => h.2, fun h => ⟨⟨v, hv, rfl⟩, h⟩⟩
theorem Rise.nodup {L : List K} (h : Rise L) : L.Nodup := h.2.imp (fun {a b} hab e => by subst e; simp [lt] at hab)
theorem inL_take {ws : List Vr} {L : List K} (h : Rise L) {i : Nat} (hi : i < L.length) : inL (L.take (i + 1)) ws = inL (L.take i) ws + (ofK L[i] ws).length := by
  rw [List.take_succ_eq_append_getElem hi]
  refine inL_snoc _ _ (fun hm => ?_) ws
  have hn := h.nodup
  rw [← List.take_append_drop i L, List.nodup_append] at hn
  exact hn.2.2 L[i] hm L[i] (by have h0 := List.drop_eq_getElem_cons hi; rw [h0]; exact List.mem_cons_self) rfl
end Go.Proofs.YtbcmmeajglilbaaGreat
/-
  StoreRoom: THE STATES.
-/
namespace Go.Proofs.YtbcmmeajglilbaaGreat
open Go.RowKit Go.Sort

theorem insE_free {cap : Int} {vs : List Vr} {x : Vr} (h1 : isKey x.k = true) (h2 : 1 ≤ x.ba ∧ x.ba ≤ 1099511627776) (h3 : 0 ≤ x.ix ∧ x.ix < 64) (h4 : cap ≠ (vs.length : Int)) (h5 : ∀ v ∈ vs, v.k = x.k → v.ba < x.ba) : insE cap vs x = 0 := by
  unfold insE
  rw [if_neg (by simp [h1]), if_neg (by omega), if_neg (by omega), if_neg h4]
  cases hl : (ofK x.k vs).getLast? with
  | none => rfl
  | some y =>
    have hm := List.mem_filter.1 (List.mem_of_getLast? hl)
    have hy := h5 y hm.1 (by simpa using hm.2)
    simp only
    rw [if_pos (show later x y from Or.inl hy)]
theorem insE_full {cap : Int} {vs : List Vr} {x : Vr} (h1 : isKey x.k = true) (h2 : 1 ≤ x.ba ∧ x.ba ≤ 1099511627776) (h3 : 0 ≤ x.ix ∧ x.ix < 64) (h4 : cap = (vs.length : Int)) : insE cap vs x = 92 := by
  unfold insE
  rw [if_neg (by simp [h1]), if_neg (by omega), if_neg (by omega), if_pos h4]
/-- a list of numbers of one's own -/
def Th (w : World) (n0 : Nat) (ao : Option Addr) (c : Nat) (xs : List Int) : Prop := (ao = none ∧ c = 0 ∧ xs = []) ∨ ∃ g off, ao = some ⟨g, off, none⟩ ∧ RwI w g off c xs ∧ n0 ≤ g
abbrev bk (ao : Option Addr) (k : Nat) : Prop := ao.map Addr.block = some k
theorem RwI.lt {w : World} {g off c : Nat} {xs : List Int} (h : RwI w g off c xs) : g < w.heap.size := by obtain ⟨⟨_, h1, _⟩, _⟩ := h; exact blk_lt h1
theorem Th.same {w w' : World} {n0 : Nat} {ao : Option Addr} {c : Nat} {xs : List Int} (h : Th w n0 ao c xs) (hs : ∀ k, bk ao k → w'.heap[k]? = w.heap[k]?) : Th w' n0 ao c xs := by
  rcases h with h | ⟨g, off, rfl, h1, h2⟩
  · exact .inl h
  · exact .inr ⟨g, off, rfl, h1.same (hs g rfl), h2⟩
theorem Th.lt {w : World} {n0 : Nat} {ao : Option Addr} {c : Nat} {xs : List Int} (h : Th w n0 ao c xs) {k : Nat} (hk : bk ao k) : k < w.heap.size ∧ n0 ≤ k := by
  rcases h with ⟨rfl, _⟩ | ⟨g, off, rfl, h1, h2⟩
  · cases hk
  · simp [bk] at hk; subst hk; exact ⟨h1.lt, h2⟩
theorem Th.kp {w w' : World} {n0 : Nat} {ao : Option Addr} {c : Nat} {xs : List Int} (h : Th w n0 ao c xs) (hk : Kp n0 (bk ao) w w') : Th w' n0 ao c xs := h.same (fun k hb => hk.block k (h.lt hb).1 (.inr hb))
theorem Th.kept {w w' : World} {n0 : Nat} {ao : Option Addr} {c : Nat} {xs : List Int} (h : Th w n0 ao c xs) (hk : Below w.heap.size w w') : Th w' n0 ao c xs := h.kp (Kp.ofBelow hk)
/-- a list beside the store has grown -/
theorem ST.grown {n0 : Nat} {w w' : World} {S P : Nat} {cap last : Int} {vs : List Vr} {ao ao' : Option Addr} (h : ST n0 (bk ao) w S P cap last vs) (hfr : Fr (bk ao) w w') (hbk : ∀ k, bk ao' k → bk ao k ∨ w.heap.size ≤ k) : ST n0 (bk ao') w' S P cap last vs :=
  ((h.frame (G := fun k => bk ao k ∨ bk ao' k) (fun k hk => hk.elim .inl (hbk k))).off (fun k hk hn => hfr.block k hk (fun e => hn (.inl e)))).frame (fun _ hk => .inl (.inr hk))
/-- the first loop: i versions are in -/
structure R1 (n0 : Nat) (w0 wr : World) (S n i : Nat) (ao : Option Addr) (c : Nat) (vs : List Vr) : Prop where
  st : ST n0 (bk ao) wr S 4 n i vs
  len : vs.length = i
  ba : ∀ v ∈ vs, v.ba ≤ i
  th : Th wr n0 ao c (vs.map Vr.n)
  bel : Below n0 w0 wr
/-- the second loop -/
structure R2 (n0 : Nat) (w0 wr : World) (S n i : Nat) (ao : Option Addr) (c : Nat) (xs : List Int) (vs : List Vr) : Prop where
  st : ST n0 (bk ao) wr S 4 n ((n : Int) + i) vs
  len : vs.length = n
  ba : ∀ v ∈ vs, v.ba ≤ n + i
  th : Th wr n0 ao c xs
  xl : xs.length = n
  nd : xs.Nodup
  mem : ∀ x ∈ xs, ∃ v ∈ vs, v.n = x
  bel : Below n0 w0 wr
theorem R2.with {n0 : Nat} {w0 wr w2 : World} {S n i : Nat} {ao : Option Addr} {c : Nat} {xs : List Int} {vs : List Vr} (h : R2 n0 w0 wr S n i ao c xs vs) (hk : Kp n0 (bk ao) wr w2) (hst : ST n0 (bk ao) w2 S 4 n ((n : Int) + i) vs) (hn0 : n0 ≤ wr.heap.size := by omega) : R2 n0 w0 w2 S n i ao c xs vs :=
  ⟨hst, h.len, h.ba, h.th.kp hk, h.xl, h.nd, h.mem, h.bel.trans (hk.below hn0)⟩
theorem R2.kept {n0 : Nat} {w0 wr w2 : World} {S n i : Nat} {ao : Option Addr} {c : Nat} {xs : List Int} {vs : List Vr} (h : R2 n0 w0 wr S n i ao c xs vs) (hk : Below wr.heap.size wr w2) (hn0 : n0 ≤ wr.heap.size := by omega) : R2 n0 w0 w2 S n i ao c xs vs := h.with (Kp.ofBelow hk) (h.st.kept hk) hn0
theorem R1.done {n0 : Nat} {w0 wr : World} {S n : Nat} {ao : Option Addr} {c : Nat} {vs : List Vr} (h : R1 n0 w0 wr S n n ao c vs) : R2 n0 w0 wr S n 0 ao c (vs.map Vr.n) vs :=
  ⟨by have := h.st; simpa using this, h.len, by have := h.ba; simpa using this, h.th, by rw [List.length_map, h.len], h.st.nd, fun x hx => by obtain ⟨v, hv, rfl⟩ := List.mem_map.1 hx; exact ⟨v, hv, rfl⟩, h.bel⟩
theorem RwI.set {w : World} {g off c : Nat} {X Y : List Int} {x : Int} (h : RwI w g off c (X ++ x :: Y)) (y : Int) : RwI (w.setCell ⟨g, off + X.length, none⟩ (.int .i64 y)) g off c (X ++ y :: Y) := by
  obtain ⟨⟨cur, h1, h2, h3⟩, h4, h5⟩ := h
  refine ⟨⟨_, blk_set _ h1, by simpa using h2, fun j hj => ?_⟩, by simpa using h4, h5⟩
  have hl : (X ++ y :: Y).length = (X ++ x :: Y).length := by simp
  by_cases e : j = X.length
  · subst e
    rw [Array.getElem?_setIfInBounds_self, if_pos (by rw [hl] at hj; omega)]
    simp
  · rw [Array.getElem?_setIfInBounds_ne (by omega), h3 j (by rw [← hl]; exact hj)]
    congr 2
    by_cases e2 : j < X.length
    · rw [List.getElem_append_left e2, List.getElem_append_left e2]
    · rw [List.getElem_append_right (by omega), List.getElem_append_right (by omega)]
      obtain ⟨q, hq⟩ : ∃ q, j - X.length = q + 1 := ⟨j - X.length - 1, by omega⟩
      simp only [hq, List.getElem_cons_succ]
/-- one is taken out -/
structure R3 (n0 : Nat) (w0 wr : World) (S n i : Nat) (ao : Option Addr) (c : Nat) (X Y : List Int) (x : Int) (us : List Vr) : Prop where
  st : ST n0 (bk ao) wr S 4 n ((n : Int) + i) us
  len : us.length + 1 = n
  ba : ∀ v ∈ us, v.ba ≤ n + i
  th : Th wr n0 ao c (X ++ x :: Y)
  xl : (X ++ x :: Y).length = n
  nd : (X ++ x :: Y).Nodup
  mem : ∀ y ∈ X ++ Y, ∃ v ∈ us, v.n = y
  no : fv us x = none
  lt : ∀ y ∈ X ++ x :: Y, y ≤ (n : Int) + i
  bel : Below n0 w0 wr
theorem R2.out {n0 : Nat} {w0 wr w2 : World} {S n i : Nat} {ao : Option Addr} {c : Nat} {X Y : List Int} {x : Int} {A C : List Vr} {v : Vr} (h : R2 n0 w0 wr S n i ao c (X ++ x :: Y) (A ++ v :: C)) (hv : v.n = x) (hk : Kp n0 (bk ao) wr w2) (hst : ST n0 (bk ao) w2 S 4 n ((n : Int) + i) (A ++ C)) (hn0 : n0 ≤ wr.heap.size) : R3 n0 w0 w2 S n i ao c X Y x (A ++ C) := by
  have hnd := h.st.nd
  have hs := nodup_split hnd
  have hxn := h.nd
  refine ⟨hst, ?_, fun u hu => h.ba u ?_, h.th.kp hk, h.xl, h.nd, fun y hy => ?_, ?_, fun y hy => ?_, h.bel.trans (hk.below hn0)⟩
  · have := h.len; simp at this ⊢; omega
  · simp at hu ⊢; exact hu.elim .inl (fun h => .inr (.inr h))
  · obtain ⟨u, hu, hun⟩ := h.mem y (by simp at hy ⊢; exact hy.elim .inl (fun h => .inr (.inr h)))
    refine ⟨u, ?_, hun⟩
    have hne : u ≠ v := fun e => by
      rw [e, hv] at hun
      have h2 := nodup_split (f := fun z : Int => z) (A := X) (C := Y) (e := x) (by simpa using hxn)
      rcases List.mem_append.1 hy with m | m
      · exact h2.1 y m hun.symm
      · exact h2.2 y m hun.symm
    rcases List.mem_append.1 hu with m | m
    · exact List.mem_append.2 (.inl m)
    · rcases List.mem_cons.1 m with m | m
      · exact absurd m hne
      · exact List.mem_append.2 (.inr m)
  · refine List.find?_eq_none.2 fun u hu => ?_
    simp only [decide_eq_true_eq]
    rw [← hv]
    rcases List.mem_append.1 hu with m | m
    · exact hs.1 u m
    · exact hs.2 u m
  · obtain ⟨u, hu, hun⟩ := h.mem y hy
    rw [← hun]
    exact (h.st.nl u hu).2
theorem R3.with {n0 : Nat} {w0 wr w2 : World} {S n i : Nat} {ao : Option Addr} {c : Nat} {X Y : List Int} {x : Int} {us : List Vr} (h : R3 n0 w0 wr S n i ao c X Y x us) (hk : Kp n0 (bk ao) wr w2) (hst : ST n0 (bk ao) w2 S 4 n ((n : Int) + i) us) (hn0 : n0 ≤ wr.heap.size) : R3 n0 w0 w2 S n i ao c X Y x us :=
  ⟨hst, h.len, h.ba, h.th.kp hk, h.xl, h.nd, h.mem, h.no, h.lt, h.bel.trans (hk.below hn0)⟩
/-- and another one is in -/
theorem R3.back {n0 : Nat} {w0 wr w2 : World} {S n i : Nat} {g off c : Nat} {X Y : List Int} {x : Int} {us : List Vr} {b : Nat} {k : K} (h : R3 n0 w0 wr S n i (some ⟨g, off, none⟩) c X Y x us) (hk : Kp n0 (bk (some ⟨g, off, none⟩)) wr w2) (hst : ST n0 (bk (some ⟨g, off, none⟩)) w2 S 4 n ((n : Int) + i + 1) (us ++ [xV b ((n : Int) + i) k ((n : Int) + 1 + i) 0])) (hn0 : n0 ≤ wr.heap.size) :
    R2 n0 w0 (w2.setCell ⟨g, off + X.length, none⟩ (.int .i64 ((n : Int) + i + 1))) S n (i + 1) (some ⟨g, off, none⟩) c (X ++ ((n : Int) + i + 1) :: Y) (us ++ [xV b ((n : Int) + i) k ((n : Int) + 1 + i) 0]) := by
  have hr : RwI w2 g off c (X ++ x :: Y) ∧ n0 ≤ g := by
    rcases h.th.kp hk with ⟨h1, _⟩ | ⟨g', off', h1, h2, h3⟩
    · cases h1
    · cases h1; exact ⟨h2, h3⟩
  have hx := nodup_split (f := fun z : Int => z) (A := X) (C := Y) (e := x) (by have := h.nd; simpa using this)
  refine ⟨?_, ?_, fun v hv => ?_, .inr ⟨g, off, rfl, hr.1.set _, hr.2⟩, by have := h.xl; simp at this ⊢; exact this, ?_, fun y hy => ?_, (h.bel.trans (hk.below hn0)).trans ?_⟩
  · have h1 := hst.off (w' := w2.setCell ⟨g, off + X.length, none⟩ (.int .i64 ((n : Int) + i + 1))) (fun k _ hn => heap_setCell_other _ _ _ _ (fun e => hn (by rw [e]; rfl)))
    rw [show ((n : Int) + ((i + 1 : Nat) : Int)) = (n : Int) + i + 1 by omega]
    exact h1
  · have := h.len; simp; omega
  · rcases List.mem_append.1 hv with hv | hv
    · have := h.ba v hv; omega
    · simp at hv; subst hv; show (n : Int) + 1 + i ≤ _; omega
  · have h1 := h.nd
    have h2 : ∀ y ∈ X ++ Y, y ≠ (n : Int) + i + 1 := fun y hy e => by
      have := h.lt y (by simp at hy ⊢; exact hy.elim .inl (fun h => .inr (.inr h)))
      omega
    rw [List.nodup_append] at h1 ⊢
    obtain ⟨a1, a2, a3⟩ := h1
    refine ⟨a1, List.nodup_cons.2 ⟨fun hm => h2 _ (List.mem_append.2 (.inr hm)) rfl, (List.nodup_cons.1 a2).2⟩, fun a ha b hb => ?_⟩
    rcases List.mem_cons.1 hb with rfl | hb
    · exact h2 a (List.mem_append.2 (.inl ha))
    · exact a3 a ha b (by simp [hb])
  · rcases List.mem_append.1 hy with m | m
    · obtain ⟨v, hv, e⟩ := h.mem y (List.mem_append.2 (.inl m))
      exact ⟨v, List.mem_append.2 (.inl hv), e⟩
    · rcases List.mem_cons.1 m with rfl | m
      · exact ⟨xV b ((n : Int) + i) k ((n : Int) + 1 + i) 0, List.mem_append.2 (.inr (List.mem_singleton.2 rfl)), rfl⟩
      · obtain ⟨v, hv, e⟩ := h.mem y (List.mem_append.2 (.inr m))
        exact ⟨v, List.mem_append.2 (.inl hv), e⟩
  · exact ⟨rfl, rfl, rfl, by simp, fun k hk => heap_setCell_other _ _ _ _ (by have := hr.2; show k ≠ g; omega)⟩
end Go.Proofs.YtbcmmeajglilbaaGreat
/-
  StoreRoom.
-/
namespace Go.Proofs.YtbcmmeajglilbaaGreat
open Go.RowKit Go.Sort

theorem key0 (r : Int) : isKey (0, r) = true := by simp [isKey]
theorem umod (x q : Int) (hq : 0 < q) : ∃ r : Nat, (IntKind.u64.wrap x).tmod q = (r : Int) ∧ (r : Int) < q := by
  have h0 : 0 ≤ IntKind.u64.wrap x := by rw [IntKind.wrap_u64]; omega
  have h1 : (IntKind.u64.wrap x).tmod q = IntKind.u64.wrap x % q := Int.tmod_eq_emod_of_nonneg h0
  have h2 := Int.emod_nonneg (IntKind.u64.wrap x) (b := q) (by omega)
  have h3 := Int.emod_lt_of_pos (IntKind.u64.wrap x) hq
  obtain ⟨r, hr⟩ := Int.eq_ofNat_of_zero_le h2
  exact ⟨r, by rw [h1]; exact hr, by omega⟩
theorem insert_in (n0 : Nat) (F : Nat → Prop) (w : World) (S P : Nat) (cap last : Int) (vs : List Vr) (h : ST n0 F w S P cap last vs) (hF : ∀ k, F k → k < w.heap.size) (hn0 : n0 ≤ w.heap.size) (k1 k2 : Int) (ba ix : Int) (hk : KIn (k1, k2)) (hba : In64 ba) (hix : In64 ix) (hl0 : 0 ≤ last ∧ last + 1 ≤ 1000000000000000) (E : Int) (hE : insE cap vs (xV 0 last (k1, k2) ba ix) = E) :
    Calls Tryz.prog 12 #[ptr S, .agg #[.int .i64 k1, .int .i64 k2], .int .i64 ba, .int .i64 ix] w fun e w' => Kp n0 F w w' ∧
      ((E ≠ 0 ∧ e = .returned (.tuple #[.int .i64 0, .int .i64 E]) ∧ ST n0 F w' S P cap last vs) ∨
       (E = 0 ∧ e = .returned (.tuple #[.int .i64 (last + 1), .int .i64 0]) ∧ ∃ b, ST n0 F w' S P cap (last + 1) (vs ++ [xV b last (k1, k2) ba ix]))) := by
  have := insert_st n0 F w S P cap last vs h hF hn0 (k1, k2) ba ix hk hba hix hl0
  rw [hE] at this
  exact this
theorem hidC {p : Prop} (h : p) : Hid p := h
/-- the list lies there -/
def IntsAt (w : World) (ad : Option Addr) (ds : List Int) : Prop := ds = [] ∨ ∃ b off, ad = some ⟨b, off, none⟩ ∧ ∀ j, j < ds.length → w.cell? ⟨b, off + j, none⟩ = some (.int .i64 (ds.getD j 0))
end Go.Proofs.YtbcmmeajglilbaaGreat
/-
  before, Before; Parts, Part, KeyOf.
-/
namespace Go.Proofs.YtbcmmeajglilbaaGreat
open Go.RowKit Go.Sort

section
variable {n0 : Nat} {F : Nat → Prop} {w w' : World} {S P : Nat} {cap last : Int} {vs : List Vr}
theorem ST.ik (h : ST n0 F w S P cap last vs) : ∀ v ∈ vs, isKey v.k = true := by
  obtain ⟨V, D, M, L, es, R, h1, h2⟩ := h
  exact h1.ik
theorem ST.P0 (h : ST n0 F w S P cap last vs) : 1 ≤ P ∧ P ≤ 256 := by
  obtain ⟨V, D, M, L, es, R, h1, h2⟩ := h
  exact h1.da.P0
theorem ST.S0 (h : ST n0 F w S P cap last vs) : w.cell? ⟨S, 0, none⟩ = some (.int .i64 (P : Int)) := by
  obtain ⟨V, D, M, L, es, R, h1, h2⟩ := h
  exact h1.cells.1
end
set_option maxHeartbeats 1000000 in
theorem parts_st (n0 : Nat) (F : Nat → Prop) (w : World) (S P : Nat) (cap last : Int) (vs : List Vr) (h : ST n0 F w S P cap last vs) :
    Calls Tryz.prog 38 #[ptr S] w fun e w' => e = .returned (.int .i64 (P : Int)) ∧ w' = w := by
  have c0 := h.S0
  clear h
  go_enter Tryz.func38, Tryz.ntmps38
  go_wp2
  go_ret
  exact ⟨rfl, rfl⟩
set_option maxRecDepth 100000 in
set_option maxHeartbeats 1000000 in
theorem before_any (w : World) (c g off cc : Nat) (A C : List Vr) (v : Vr) (h : Line w c g off cc (A ++ v :: C)) :
    Calls Tryz.prog 57 #[ptr c, ptr v.b] w fun e w' => e = .returned (.int .i64 (lastN A)) ∧ Below w.heap.size w w' := by
  have HA := hidC (at_any w c g off cc A C v h)
  have HN : Hid (∀ W, Below w.heap.size w W → Calls Tryz.prog 76 #[ptr c, .int .i64 (A.length : Int)] W fun e w' => e = .returned (.int .i64 (lastN A)) ∧ w' = W) := fun W hW => by
    have := numberAhead_any W c g off cc (A ++ v :: C) A.length (h.kept hW) (by simp)
    rw [aheadN_last] at this
    exact this
  clear h
  generalize A.length = m at *
  generalize lastN A = res at *
  go_enter Tryz.func57, Tryz.ntmps57
  go_wp2_with fail
  refine HA.out.mono ?_
  rintro e w2 ⟨rfl, hb2⟩
  have HB2 := hidC hb2
  have HN2 := hidC (HN.out w2 hb2)
  clear hb2 HA HN
  go_wp2_with fail
  refine HN2.out.mono ?_
  rintro e w3 ⟨rfl, hw3⟩
  have hw3' := hw3.symm
  subst hw3'
  clear hw3 HN2
  go_wp2
  go_ret
  exact ⟨rfl, HB2.out⟩
set_option maxRecDepth 100000 in
set_option maxHeartbeats 1000000 in
theorem beforeS_any (w : World) (S V D M L P : Nat) (hf : Value) (cap last : Int) (vs : List Vr) (es : List En) (R : K → Nat × Nat × Nat) (h : SA w S V D M L P hf cap last vs es R) (v : Vr) (A C : List Vr) (hv : v ∈ vs) (hs : ofK v.k vs = A ++ v :: C) :
    Calls Tryz.prog 22 #[ptr S, .int .i64 v.n] w fun e w' => e = .returned (.int .i64 (lastN A)) ∧ Below w.heap.size w w' := by
  have c3 := h.cells.2.2.2.1
  have hl := h.look (h.nums.1 v hv)
  rw [fv_of h.nums.2 hv] at hl
  simp only [pf] at hl
  obtain ⟨e0, he0, hk0, hfd⟩ := h.find hv
  have HC := hidC (chainOf_any w S V D M L P hf cap last vs es R v h hv e0 hfd)
  have HBf : Hid (∀ W, Below w.heap.size w W → Calls Tryz.prog 57 #[ptr e0.v, ptr v.b] W fun e w' => e = .returned (.int .i64 (lastN A)) ∧ Below W.heap.size W w') := fun W hW => by
    have hl := (h.kept hW).line he0
    rw [hk0, hs] at hl
    exact before_any W _ _ _ _ A C v hl
  clear h hfd he0 hk0 hs hv
  generalize lastN A = res at *
  go_enter Tryz.func22, Tryz.ntmps22
  go_wp2_with fail
  refine HC.out.mono ?_
  rintro e w2 ⟨rfl, hb2⟩
  have HB2 := hidC hb2
  have HB3 := hidC (HBf.out w2 hb2)
  clear hb2 HC HBf
  go_wp2_with fail
  refine HB3.out.mono ?_
  rintro e w3 ⟨rfl, hb3⟩
  have HB4 : Hid (Below w.heap.size w w3) := HB2.out.trans (hb3.mono HB2.out.size)
  clear hb3 HB3
  go_wp2
  go_ret
  exact ⟨rfl, HB4.out⟩
theorem before_st (n0 : Nat) (F : Nat → Prop) (w : World) (S P : Nat) (cap last : Int) (vs : List Vr) (h : ST n0 F w S P cap last vs) (v : Vr) (A C : List Vr) (hv : v ∈ vs) (hs : ofK v.k vs = A ++ v :: C) :
    Calls Tryz.prog 22 #[ptr S, .int .i64 v.n] w fun e w' => e = .returned (.int .i64 (lastN A)) ∧ Below w.heap.size w w' := by
  obtain ⟨V, D, M, L, es, R, h1, h2⟩ := h
  exact beforeS_any w S V D M L P _ cap last vs es R h1 v A C hv hs
theorem keyOf_st (n0 : Nat) (F : Nat → Prop) (w : World) (S P : Nat) (cap last : Int) (vs : List Vr) (h : ST n0 F w S P cap last vs) (n : Int) (hn : In64 n) :
    Calls Tryz.prog 20 #[ptr S, .int .i64 n] w fun e w' => e = .returned (.tuple #[kv (koV (fv vs n)).1, .int .i64 (koV (fv vs n)).2]) ∧ Below w.heap.size w w' := by
  obtain ⟨V, D, M, L, es, R, h1, h2⟩ := h
  exact keyOf_any w S V D M L P _ cap last vs es R n h1 hn
set_option maxRecDepth 100000 in
set_option maxHeartbeats 1000000 in
theorem part_st (n0 : Nat) (F : Nat → Prop) (w : World) (S P : Nat) (cap last : Int) (vs : List Vr) (h : ST n0 F w S P cap last vs) (k1 k2 : Int) (hk : KIn (k1, k2)) (hik : isKey (k1, k2) = true) :
    Calls Tryz.prog 39 #[ptr S, .agg #[.int .i64 k1, .int .i64 k2]] w fun e w' => e = .returned (.int .i64 ((hash (k1, k2) % P : Nat) : Int)) ∧ Below w.heap.size w w' := by
  have HB1 : Hid (Below w.heap.size w (w.alloc (.cells #[.int .i64 k1, .int .i64 k2] 41))) := (Below.refl _ _).alloc (Nat.le_refl _) _
  have c0 := (h.kept HB1.out).S0
  have hP := h.P0
  have HK : Hid (∀ w, Calls Tryz.prog 66 #[.agg #[.int .i64 k1, .int .i64 k2], .int .i64 (P : Int)] w fun e w' => e = .returned (.tuple #[.int .i64 ((hash (k1, k2) % P : Nat) : Int), .int .i64 0]) ∧ Grew w w') := fun w => by
    have := partition_any w k1 k2 (P : Int) hk.2
    have hok : okParts (P : Int) = true := (okParts_iff _).2 (by omega)
    have e1 : partV (k1, k2) (P : Int) = ((hash (k1, k2) % P : Nat) : Int) := by
      unfold partV; rw [if_pos hik, if_pos hok]; simp
    have e2 : partE (k1, k2) (P : Int) = 0 := by
      unfold partE; rw [if_pos hik, if_pos hok]
    rw [e1, e2] at this
    exact this
  clear h hk hik
  generalize ((hash (k1, k2) % P : Nat) : Int) = hv at *
  have b0 : (w.alloc (.cells #[.int .i64 k1, .int .i64 k2] 41)).cell? ⟨w.heap.size, 0, none⟩ = some (.int .i64 k1) := by rw [World.cell?, heap_alloc_new _ _ rfl]; rfl
  have b1 : (w.alloc (.cells #[.int .i64 k1, .int .i64 k2] 41)).cell? ⟨w.heap.size, 1, none⟩ = some (.int .i64 k2) := by rw [World.cell?, heap_alloc_new _ _ rfl]; rfl
  go_enter Tryz.func39, Tryz.ntmps39
  go_wp2_with fail
  generalize w.alloc (.cells #[.int .i64 k1, .int .i64 k2] 41) = W1 at *
  have g0 : ∀ m os, (grow (W1.drewN m) os).cell? ⟨S, 0, none⟩ = some (.int .i64 (P : Int)) := fun m os => Grew.cell ⟨m, os, rfl⟩ c0
  have e0 : ∀ m os, (grow (W1.drewN m) os).cell? ⟨w.heap.size, 0, none⟩ = some (.int .i64 k1) := fun m os => Grew.cell ⟨m, os, rfl⟩ b0
  have e1 : ∀ m os, (grow (W1.drewN m) os).cell? ⟨w.heap.size, 1, none⟩ = some (.int .i64 k2) := fun m os => Grew.cell ⟨m, os, rfl⟩ b1
  clear c0 b0 b1
  refine wp_region_quiet_grown mixed (by kernel_rfl) ?_
  repeat (go_big_quiet_step (exact Calls.grown_of (HK.out _)))
  refine wpQuiet_nil ?_
  intro _ hw'
  obtain ⟨⟨nq, osq⟩, hw''⟩ := hw'
  subst hw''
  have HF : Hid (Below w.heap.size w (grow (W1.drewN nq) osq)) := HB1.out.trans ((Grew.below ⟨nq, osq, rfl⟩).mono HB1.out.size)
  go_wp2
  go_ret
  exact ⟨rfl, HF.out⟩
end Go.Proofs.YtbcmmeajglilbaaGreat
