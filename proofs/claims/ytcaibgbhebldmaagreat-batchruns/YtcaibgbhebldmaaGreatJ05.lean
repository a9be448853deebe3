import Derived.Test.YtcaibgbhebldmaaGreatJ01
import Derived.Laws.AppendOwnNone
import Derived.Maps.AppendAt
import Derived.Test.YtcaibgbhebldmaaGreatRows
/-
  SETS OF KEYS, AS LISTS THAT RISE.
-/
namespace Go.Proofs.YtcaibgbhebldmaaGreat.Kk

/-- a list that rises -/
def Rise (l : List K) : Prop := (∀ k ∈ l, isKey k = true) ∧ l.Pairwise (fun a b => lt a b = true)
instance (l : List K) : Decidable (Rise l) := by unfold Rise; infer_instance
theorem rise_nil : Rise [] := ⟨by simp, .nil⟩
theorem rise_cons {a : K} {l : List K} : Rise (a :: l) ↔ isKey a = true ∧ (∀ b ∈ l, lt a b = true) ∧ Rise l := by
  unfold Rise
  simp only [List.mem_cons, forall_eq_or_imp, List.pairwise_cons]
  constructor
  · rintro ⟨⟨h1, h2⟩, h3, h4⟩; exact ⟨h1, h3, h2, h4⟩
  · rintro ⟨h1, h3, h2, h4⟩; exact ⟨⟨h1, h2⟩, h3, h4⟩
theorem Rise.sub {l m : List K} (h : Rise l) (s : m.Sublist l) : Rise m := ⟨fun k hk => h.1 k (s.subset hk), h.2.sublist s⟩
theorem Rise.take {l : List K} (h : Rise l) (n : Nat) : Rise (l.take n) := h.sub (List.take_sublist n l)
theorem Rise.drop {l : List K} (h : Rise l) (n : Nat) : Rise (l.drop n) := h.sub (List.drop_sublist n l)
theorem rise_append {l m : List K} : Rise (l ++ m) ↔ Rise l ∧ Rise m ∧ ∀ a ∈ l, ∀ b ∈ m, lt a b = true := by
  unfold Rise
  rw [List.pairwise_append]
  simp only [List.mem_append]
  constructor
  · rintro ⟨h1, h2, h3, h4⟩; exact ⟨⟨fun k hk => h1 k (.inl hk), h2⟩, ⟨fun k hk => h1 k (.inr hk), h3⟩, h4⟩
  · rintro ⟨⟨h1, h2⟩, ⟨h3, h4⟩, h5⟩; exact ⟨fun k hk => hk.elim (h1 k) (h3 k), h2, h4, h5⟩
/-- one more at the end: it is above the last -/
theorem rise_snoc {l : List K} {x : K} (hl : Rise l) (hx : isKey x = true) (h : ∀ (i : Nat) (y : K), i + 1 = l.length → l[i]? = some y → lt y x = true) : Rise (l ++ [x]) := by
  rw [rise_append]
  refine ⟨hl, ⟨by simpa using hx, by simp⟩, ?_⟩
  intro a ha b hb
  simp at hb; subst hb
  have hne : l ≠ [] := by rintro rfl; simp at ha
  have e := List.dropLast_concat_getLast hne
  have hlast : lt (l.getLast hne) b = true := by
    refine h (l.length - 1) _ (by have := List.length_pos_iff.2 hne; omega) ?_
    rw [← List.getLast?_eq_getElem?, List.getLast?_eq_some_getLast hne]
  rw [← e, rise_append] at hl
  rw [← e, List.mem_append] at ha
  rcases ha with ha | ha
  · exact lt_trans (hl.2.2 a ha _ (by simp)) hlast
  · simp at ha; rw [ha]; exact hlast
/-- two that rise and have the same members are one -/
theorem rise_unique {l m : List K} (hl : Rise l) (hm : Rise m) (h : ∀ k, k ∈ l ↔ k ∈ m) : l = m := by
  induction l generalizing m with
  | nil => cases m with | nil => rfl | cons b m => exact absurd ((h b).2 (by simp)) (by simp)
  | cons a l ih =>
    cases m with
    | nil => exact absurd ((h a).1 (by simp)) (by simp)
    | cons b m =>
      rw [rise_cons] at hl hm
      have hab : a = b := by
        have h1 := (h a).1 (by simp)
        have h2 := (h b).2 (by simp)
        simp only [List.mem_cons] at h1 h2
        rcases h1 with h1 | h1
        · exact h1
        · rcases h2 with h2 | h2
          · exact h2.symm
          · have := hm.2.1 a h1
            have h4 := hl.2.1 b h2
            rw [lt_asymm this] at h4; cases h4
      subst hab
      congr 1
      refine ih hl.2.2 hm.2.2 fun k => ?_
      have := h k
      simp only [List.mem_cons] at this
      constructor
      · intro hk
        rcases this.1 (.inr hk) with e | e
        · rw [e] at hk; have := hl.2.1 a hk; rw [lt_irrefl] at this; cases this
        · exact e
      · intro hk
        rcases this.2 (.inr hk) with e | e
        · rw [e] at hk; have := hm.2.1 a hk; rw [lt_irrefl] at this; cases this
        · exact e

/-- a key put into a list that rises -/
def put (l : List K) (k : K) : List K := if k ∈ l then l else l.filter (fun x => lt x k) ++ k :: l.filter (fun x => lt k x)
theorem put_mem (l : List K) (k x : K) : x ∈ put l k ↔ x = k ∨ x ∈ l := by
  unfold put
  split
  · rename_i h
    constructor
    · exact .inr
    · rintro (rfl | h'); exact h; exact h'
  · rename_i h
    simp only [List.mem_append, List.mem_filter, List.mem_cons]
    constructor
    · rintro (⟨h1, _⟩ | h1 | ⟨h1, _⟩)
      · exact .inr h1
      · exact .inl h1
      · exact .inr h1
    · rintro (rfl | h1)
      · exact .inr (.inl rfl)
      · by_cases h2 : lt x k = true
        · exact .inl ⟨h1, h2⟩
        · by_cases h3 : lt k x = true
          · exact .inr (.inr ⟨h1, h3⟩)
          · exact .inr (.inl (eq_of_not_lt (by simpa using h2) (by simpa using h3)))
theorem put_rise {l : List K} {k : K} (hl : Rise l) (hk : isKey k = true) : Rise (put l k) := by
  unfold put
  split
  · exact hl
  · rw [rise_append, rise_cons]
    refine ⟨hl.sub List.filter_sublist, ⟨hk, fun b hb => (List.mem_filter.1 hb).2, hl.sub List.filter_sublist⟩, ?_⟩
    intro a ha b hb
    have h1 := (List.mem_filter.1 ha).2
    rw [List.mem_cons] at hb
    rcases hb with rfl | hb
    · exact h1
    · exact lt_trans h1 (List.mem_filter.1 hb).2
/-- the set of a list -/
def sortK (l : List K) : List K := l.foldl put []
theorem sortK_snoc (l : List K) (k : K) : sortK (l ++ [k]) = put (sortK l) k := by simp [sortK]
theorem sortK_mem (l : List K) (x : K) : x ∈ sortK l ↔ x ∈ l := by
  suffices H : ∀ n, ∀ l : List K, l.length = n → (x ∈ sortK l ↔ x ∈ l) from H _ l rfl
  intro n
  induction n with
  | zero => intro l hl; cases l with | nil => simp [sortK] | cons => simp at hl
  | succ n ih =>
    intro l hl
    have hne : l ≠ [] := by rintro rfl; simp at hl
    rw [← List.dropLast_concat_getLast hne, sortK_snoc, put_mem, ih _ (by simp; omega)]
    simp only [List.mem_append, List.mem_singleton]
    exact Or.comm
theorem sortK_rise {l : List K} (h : ∀ k ∈ l, isKey k = true) : Rise (sortK l) := by
  suffices H : ∀ n, ∀ l : List K, l.length = n → (∀ k ∈ l, isKey k = true) → Rise (sortK l) from H _ l rfl h
  intro n
  induction n with
  | zero => intro l hl _; cases l with | nil => exact rise_nil | cons => simp at hl
  | succ n ih =>
    intro l hl h
    have hne : l ≠ [] := by rintro rfl; simp at hl
    rw [← List.dropLast_concat_getLast hne] at h ⊢
    rw [sortK_snoc]
    exact put_rise (ih _ (by simp; omega) fun k hk => h k (by simp [hk])) (h _ (by simp))
/-- what rises and has a list's members is its set -/
theorem sortK_eq {l m : List K} (hm : Rise m) (h : ∀ k, k ∈ m ↔ k ∈ l) : m = sortK l :=
  rise_unique hm (sortK_rise fun k hk => hm.1 k ((h k).2 hk)) fun k => (h k).trans (sortK_mem l k).symm
theorem sortK_length (l : List K) : (sortK l).length ≤ l.length := by
  suffices H : ∀ n, ∀ l : List K, l.length = n → (sortK l).length ≤ l.length from H _ l rfl
  intro n
  induction n with
  | zero => intro l hl; cases l with | nil => simp [sortK] | cons => simp at hl
  | succ n ih =>
    intro l hl
    have hne : l ≠ [] := by rintro rfl; simp at hl
    have := ih l.dropLast (by simp; omega)
    rw [← List.dropLast_concat_getLast hne, sortK_snoc]
    simp only [List.length_append, List.length_cons, List.length_nil]
    refine Nat.le_trans ?_ (Nat.add_le_add_right this 1)
    generalize sortK l.dropLast = s
    unfold put
    split
    · omega
    · have hd : ∀ s : List K, (s.filter (fun x => lt x (l.getLast hne))).length + (s.filter (fun x => lt (l.getLast hne) x)).length ≤ s.length := by
        intro s
        induction s with
        | nil => simp
        | cons a s ih =>
          simp only [List.filter_cons]
          by_cases h1 : lt a (l.getLast hne) = true
          · simp [h1, lt_asymm h1]; omega
          · by_cases h2 : lt (l.getLast hne) a = true
            · simp [h1, h2]; omega
            · simp [h1, h2]; omega
      have := hd s
      simp; omega

/-- Union, Meet, Minus: the keys that are wanted, by which of the two lists they stand in -/
def choose (f : Bool → Bool → Bool) : Nat → List K → List K → List K
  | 0, _, _ => []
  | _ + 1, [], [] => []
  | n + 1, a :: xa, [] => (if f true false then [a] else []) ++ choose f n xa []
  | n + 1, [], b :: bs => (if f false true then [b] else []) ++ choose f n [] bs
  | n + 1, a :: xa, b :: bs =>
    if a = b then (if f true true then [a] else []) ++ choose f n xa bs
    else if lt a b then (if f true false then [a] else []) ++ choose f n xa (b :: bs)
    else (if f false true then [b] else []) ++ choose f n (a :: xa) bs
theorem mem_ite1 {c : Bool} {a k : K} : k ∈ (if c then [a] else []) ↔ c = true ∧ k = a := by cases c <;> simp
theorem choose_mem (f : Bool → Bool → Bool) (hf : f false false = false) (n : Nat) (a b : List K) (hn : a.length + b.length ≤ n) (ha : Rise a) (hb : Rise b) (k : K) :
    k ∈ choose f n a b ↔ f (decide (k ∈ a)) (decide (k ∈ b)) = true := by
  induction n generalizing a b with
  | zero =>
    obtain ⟨rfl, rfl⟩ : a = [] ∧ b = [] := by
      constructor <;> (apply List.eq_nil_of_length_eq_zero; omega)
    simp [choose, hf]
  | succ n ih =>
    cases a with
    | nil =>
      cases b with
      | nil => simp [choose, hf]
      | cons b bs =>
        rw [rise_cons] at hb
        simp only [choose, List.mem_append, mem_ite1]
        rw [ih [] bs (by simp at hn ⊢; omega) ha hb.2.2]
        by_cases hk : k = b
        · subst hk
          have : k ∉ bs := fun h => by have := hb.2.1 k h; rw [lt_irrefl] at this; cases this
          simp [this, hf]
        · simp [hk]
    | cons a xa =>
      cases b with
      | nil =>
        rw [rise_cons] at ha
        simp only [choose, List.mem_append, mem_ite1]
        rw [ih xa [] (by simp at hn ⊢; omega) ha.2.2 hb]
        by_cases hk : k = a
        · subst hk
          have : k ∉ xa := fun h => by have := ha.2.1 k h; rw [lt_irrefl] at this; cases this
          simp [this, hf]
        · simp [hk]
      | cons b bs =>
        have ha' := ha; have hb' := hb
        rw [rise_cons] at ha hb
        have hna : a ∉ xa := fun h => by have := ha.2.1 a h; rw [lt_irrefl] at this; cases this
        have hnb : b ∉ bs := fun h => by have := hb.2.1 b h; rw [lt_irrefl] at this; cases this
        simp only [choose]
        by_cases hab : a = b
        · subst hab
          simp only [if_true, List.mem_append, mem_ite1]
          rw [ih xa bs (by simp at hn ⊢; omega) ha.2.2 hb.2.2]
          by_cases hk : k = a
          · subst hk; simp [hna, hnb, hf]
          · simp [hk]
        · rw [if_neg hab]
          by_cases hlt : lt a b = true
          · rw [if_pos hlt]
            simp only [List.mem_append, mem_ite1]
            rw [ih xa (b :: bs) (by simp at hn ⊢; omega) ha.2.2 hb']
            by_cases hk : k = a
            · subst hk
              have h2 : k ∉ bs := fun h => by have := lt_trans hlt (hb.2.1 k h); rw [lt_irrefl] at this; cases this
              simp [hna, hab, h2, hf]
            · simp [hk]
          · rw [if_neg hlt]
            simp only [List.mem_append, mem_ite1]
            have hgt : lt b a = true := by
              by_cases h : lt b a = true
              · exact h
              · exact absurd (eq_of_not_lt (by simpa using hlt) (by simpa using h)) hab
            rw [ih (a :: xa) bs (by simp at hn ⊢; omega) ha' hb.2.2]
            by_cases hk : k = b
            · subst hk
              have h2 : k ∉ xa := fun h => by have := lt_trans hgt (ha.2.1 k h); rw [lt_irrefl] at this; cases this
              simp [hnb, Ne.symm hab, h2, hf]
            · simp [hk]
theorem choose_sub (f : Bool → Bool → Bool) (n : Nat) (a b : List K) : ∀ k ∈ choose f n a b, k ∈ a ∨ k ∈ b := by
  induction n generalizing a b with
  | zero => simp [choose]
  | succ n ih =>
    intro k hk
    cases a with
    | nil =>
      cases b with
      | nil => simp [choose] at hk
      | cons b bs =>
        simp only [choose, List.mem_append, mem_ite1] at hk
        rcases hk with hk | hk
        · simp [hk.2]
        · rcases ih _ _ k hk with h | h <;> simp_all
    | cons a xa =>
      cases b with
      | nil =>
        simp only [choose, List.mem_append, mem_ite1] at hk
        rcases hk with hk | hk
        · simp [hk.2]
        · rcases ih _ _ k hk with h | h <;> simp_all
      | cons b bs =>
        simp only [choose] at hk
        split at hk
        · simp only [List.mem_append, mem_ite1] at hk
          rcases hk with hk | hk
          · simp [hk.2]
          · rcases ih _ _ k hk with h | h <;> simp_all
        · split at hk
          · simp only [List.mem_append, mem_ite1] at hk
            rcases hk with hk | hk
            · simp [hk.2]
            · rcases ih _ _ k hk with h | h
              · simp_all
              · exact .inr h
          · simp only [List.mem_append, mem_ite1] at hk
            rcases hk with hk | hk
            · simp [hk.2]
            · rcases ih _ _ k hk with h | h
              · exact .inl h
              · simp_all
theorem rise_ite1 {c : Bool} {a : K} {l : List K} (ha : isKey a = true) (hl : Rise l) (h : ∀ b ∈ l, lt a b = true) : Rise ((if c then [a] else []) ++ l) := by
  cases c
  · simpa using hl
  · simp only [if_true, List.singleton_append, rise_cons]; exact ⟨ha, h, hl⟩
theorem choose_rise (f : Bool → Bool → Bool) (n : Nat) (a b : List K) (ha : Rise a) (hb : Rise b) : Rise (choose f n a b) := by
  induction n generalizing a b with
  | zero => exact rise_nil
  | succ n ih =>
    cases a with
    | nil =>
      cases b with
      | nil => exact rise_nil
      | cons b bs =>
        rw [rise_cons] at hb
        refine rise_ite1 hb.1 (ih _ _ ha hb.2.2) fun k hk => ?_
        rcases choose_sub f n _ _ k hk with h | h
        · simp at h
        · exact hb.2.1 k h
    | cons a xa =>
      cases b with
      | nil =>
        rw [rise_cons] at ha
        refine rise_ite1 ha.1 (ih _ _ ha.2.2 hb) fun k hk => ?_
        rcases choose_sub f n _ _ k hk with h | h
        · exact ha.2.1 k h
        · simp at h
      | cons b bs =>
        have ha' := ha; have hb' := hb
        rw [rise_cons] at ha hb
        simp only [choose]
        by_cases hab : a = b
        · subst hab
          rw [if_pos rfl]
          refine rise_ite1 ha.1 (ih _ _ ha.2.2 hb.2.2) fun k hk => ?_
          rcases choose_sub f n _ _ k hk with h | h
          · exact ha.2.1 k h
          · exact hb.2.1 k h
        · rw [if_neg hab]
          by_cases hlt : lt a b = true
          · rw [if_pos hlt]
            refine rise_ite1 ha.1 (ih _ _ ha.2.2 hb') fun k hk => ?_
            rcases choose_sub f n _ _ k hk with h | h
            · exact ha.2.1 k h
            · rw [List.mem_cons] at h
              rcases h with rfl | h
              · exact hlt
              · exact lt_trans hlt (hb.2.1 k h)
          · have hgt : lt b a = true := by
              by_cases h : lt b a = true
              · exact h
              · exact absurd (eq_of_not_lt (by simpa using hlt) (by simpa using h)) hab
            rw [if_neg hlt]
            refine rise_ite1 hb.1 (ih _ _ ha' hb.2.2) fun k hk => ?_
            rcases choose_sub f n _ _ k hk with h | h
            · rw [List.mem_cons] at h
              rcases h with rfl | h
              · exact hgt
              · exact lt_trans hgt (ha.2.1 k h)
            · exact hb.2.1 k h
theorem choose_union {a b : List K} (n : Nat) (hn : a.length + b.length ≤ n) (ha : Rise a) (hb : Rise b) : choose (fun x y => x || y) n a b = sortK (a ++ b) := by
  refine sortK_eq (choose_rise _ n a b ha hb) fun k => ?_
  rw [choose_mem _ rfl n a b hn ha hb]; simp
theorem choose_meet {a b : List K} (n : Nat) (hn : a.length + b.length ≤ n) (ha : Rise a) (hb : Rise b) : choose (fun x y => x && y) n a b = a.filter (fun k => decide (k ∈ b)) := by
  refine rise_unique (choose_rise _ n a b ha hb) (ha.sub List.filter_sublist) fun k => ?_
  rw [choose_mem _ rfl n a b hn ha hb]; simp
theorem choose_minus {a b : List K} (n : Nat) (hn : a.length + b.length ≤ n) (ha : Rise a) (hb : Rise b) : choose (fun x y => x && !y) n a b = a.filter (fun k => !decide (k ∈ b)) := by
  refine rise_unique (choose_rise _ n a b ha hb) (ha.sub List.filter_sublist) fun k => ?_
  rw [choose_mem _ rfl n a b hn ha hb]; simp

end Go.Proofs.YtcaibgbhebldmaaGreat.Kk
/-
  LISTS OF KEYS IN MEMORY; append.
-/
namespace Go.Proofs.YtcaibgbhebldmaaGreat.Kk
open Go.RowKit Go.Sort

/-- the cells of keys -/
def cks : List K → List Value
  | [] => []
  | k :: L => .int .i64 k.1 :: .int .i64 k.2 :: cks L
theorem cks_length (L : List K) : (cks L).length = L.length * 2 := by
  induction L with
  | nil => rfl
  | cons k L ih => simp only [cks, List.length_cons, ih]; omega
theorem cks_append (A B : List K) : cks (A ++ B) = cks A ++ cks B := by
  induction A with
  | nil => rfl
  | cons k A ih => simp [cks, ih]
/-- the j-th key -/
def kd (L : List K) (j : Nat) : K := L.getD j (0, 0)
theorem kd_cons_succ (k : K) (L : List K) (j : Nat) : kd (k :: L) (j + 1) = kd L j := by simp [kd]
theorem kd_get {L : List K} {j : Nat} (h : j < L.length) : L[j]? = some (kd L j) := by
  simp [kd, List.getD_eq_getElem?_getD, List.getElem?_eq_getElem h]
theorem kd_mem {L : List K} {j : Nat} (h : j < L.length) : kd L j ∈ L := List.mem_of_getElem? (kd_get h)
theorem kd_left (A B : List K) (j : Nat) (h : j < A.length) : kd (A ++ B) j = kd A j := by
  have h1 := kd_get (L := A ++ B) (j := j) (by simp; omega)
  rw [List.getElem?_append_left h, kd_get h] at h1
  exact (Option.some.inj h1).symm
theorem kd_right (A B : List K) (j : Nat) (h : j < B.length) : kd (A ++ B) (A.length + j) = kd B j := by
  have h1 := kd_get (L := A ++ B) (j := A.length + j) (by simp; omega)
  rw [List.getElem?_append_right (by omega), show A.length + j - A.length = j by omega, kd_get h] at h1
  exact (Option.some.inj h1).symm
theorem take_kd (L : List K) (j : Nat) (h : j < L.length) : L.take (j + 1) = L.take j ++ [kd L j] := by
  rw [List.take_succ_eq_append_getElem h]
  have := kd_get h
  rw [List.getElem?_eq_getElem h] at this
  rw [Option.some.inj this]
theorem cks_at (L : List K) (j : Nat) (h : j < L.length) : (cks L)[j * 2]? = some (.int .i64 (kd L j).1) ∧ (cks L)[j * 2 + 1]? = some (.int .i64 (kd L j).2) := by
  induction L generalizing j with
  | nil => simp at h
  | cons k L ih =>
    cases j with
    | zero => simp [cks, kd]
    | succ j =>
      have := ih j (by simp at h; omega)
      rw [kd_cons_succ, show (j + 1) * 2 = j * 2 + 1 + 1 by omega]
      simpa [cks] using this
theorem cks_one (L : List K) : ∀ v ∈ cks L, v.oneCell' = true := by
  induction L with
  | nil => simp [cks]
  | cons k L ih =>
    intro v hv
    simp only [cks, List.mem_cons] at hv
    rcases hv with rfl | rfl | h
    · rfl
    · rfl
    · exact ih v h

/-- A SLICE OF KEYS: the address and what its cells hold -/
def KeysAt (w : World) (ao : Option Addr) (L : List K) : Prop :=
  L = [] ∨ ∃ b off, ao = some ⟨b, off, none⟩ ∧ ∀ j u, (cks L)[j]? = some u → w.cell? ⟨b, off + j, none⟩ = some u
theorem KeysAt.at {w : World} {b off : Nat} {L : List K} (h : ∀ j u, (cks L)[j]? = some u → w.cell? ⟨b, off + j, none⟩ = some u) (j : Nat) (hj : j < L.length) :
    w.cell? ⟨b, off + j * 2, none⟩ = some (.int .i64 (kd L j).1) ∧ w.cell? ⟨b, off + j * 2 + 1, none⟩ = some (.int .i64 (kd L j).2) := by
  obtain ⟨h1, h2⟩ := cks_at L j hj
  exact ⟨h _ _ h1, by rw [Nat.add_assoc]; exact h _ _ h2⟩
theorem KeysAt.lt {w : World} {ao : Option Addr} {L : List K} (h : KeysAt w ao L) : ∀ a, L ≠ [] → ao = some a → a.block < w.heap.size := by
  intro a hne he
  rcases h with rfl | ⟨b, off, rfl, hc⟩
  · exact absurd rfl hne
  · cases he
    cases L with
    | nil => exact absurd rfl hne
    | cons k L => exact cell_lt (hc 0 _ (by simp [cks]; rfl))
theorem KeysAt.below {w w1 : World} {ao : Option Addr} {L : List K} (h : KeysAt w ao L) {B : Nat} (hb : Below B w w1) (hlt : ∀ a, L ≠ [] → ao = some a → a.block < B) : KeysAt w1 ao L := by
  rcases h with rfl | ⟨b, off, rfl, hc⟩
  · exact .inl rfl
  · by_cases hne : L = []
    · exact .inl hne
    · exact .inr ⟨b, off, rfl, fun j u hu => (hb.cell (p := ⟨b, off + j, none⟩) (hlt ⟨b, off, none⟩ hne rfl)).trans (hc j u hu)⟩
theorem KeysAt.kept {w w1 : World} {ao : Option Addr} {L : List K} (h : KeysAt w ao L) (hb : Below w.heap.size w w1) : KeysAt w1 ao L := h.below hb h.lt
theorem KeysAt.grew {w w1 : World} {ao : Option Addr} {L : List K} (h : KeysAt w ao L) (hg : Grew w w1) : KeysAt w1 ao L := h.kept hg.below
theorem addr_add (b off j : Nat) : (⟨b, off, none⟩ : Addr).add j = ⟨b, off + j, none⟩ := by unfold Addr.add; split <;> simp_all

/-- a slice of keys of the call's own -/
def OwnK (w : World) (base : Nat) (v : Value) (L : List K) : Prop := w.ownsRow base 89 2 v L.length (cks L)
theorem OwnK.nil (w : World) (base : Nat) : OwnK w base (.slice none 0 0) [] := World.ownsRow_nil _ _ _ _
theorem OwnK.shape {w : World} {base : Nat} {v : Value} {L : List K} (h : OwnK w base v L) :
    (v = .slice none 0 0 ∧ L = []) ∨ ∃ g cap, v = .slice (some ⟨g, 0, none⟩) L.length cap ∧ base ≤ g ∧ g < w.heap.size ∧ L.length ≤ cap ∧ cap ≤ maxLen ∧ KeysAt w (some ⟨g, 0, none⟩) L := by
  obtain ⟨hl, h⟩ := h
  rcases h with ⟨rfl, h0⟩ | ⟨g, cap, cur, rfl, hb, hg, hn, hm, hs, ht⟩
  · exact .inl ⟨rfl, List.eq_nil_of_length_eq_zero h0⟩
  · refine .inr ⟨g, cap, rfl, hb, (Array.getElem?_eq_some_iff.1 hg).1, hn, hm, .inr ⟨g, 0, rfl, fun j u hu => ?_⟩⟩
    have hj : j < L.length * 2 := by rw [← cks_length]; exact (List.getElem?_eq_some_iff.1 hu).1
    have e := World.ownsRow.cellAt (w := w) (base := base) (e := 89) (size := 2) (g := g) (cap := cap) ⟨hl, .inr ⟨g, cap, cur, rfl, hb, hg, hn, hm, hs, ht⟩⟩ j hj
    rw [Nat.zero_add, e, hu]
theorem OwnK.slice {w : World} {base : Nat} {v : Value} {L : List K} (h : OwnK w base v L) : ∃ ao cap, v = .slice ao L.length cap ∧ KeysAt w ao L ∧ (ao = none → cap = 0) ∧ L.length ≤ cap := by
  rcases h.shape with ⟨rfl, rfl⟩ | ⟨g, cap, rfl, _, _, hc, _, hb⟩
  · exact ⟨none, 0, rfl, .inl rfl, fun _ => rfl, by simp⟩
  · exact ⟨_, cap, rfl, hb, by simp, hc⟩
theorem OwnK.alloc {w : World} {base : Nat} {v : Value} {L : List K} (h : OwnK w base v L) (o : Obj) : OwnK (w.alloc o) base v L := World.ownsRow.alloc h o
theorem OwnK.drewN {w : World} {base : Nat} {v : Value} {L : List K} (h : OwnK w base v L) (n : Nat) : OwnK (w.drewN n) base v L := h
theorem OwnK.mono {w : World} {base base' : Nat} {v : Value} {L : List K} (h : OwnK w base v L) (hb : base' ≤ base) : OwnK w base' v L := by
  obtain ⟨hl, h⟩ := h
  refine ⟨hl, ?_⟩
  rcases h with h | ⟨g, cap, cur, e, hg, r⟩
  · exact .inl h
  · exact .inr ⟨g, cap, cur, e, by omega, r⟩
theorem OwnK.lt {w : World} {base : Nat} {v : Value} {L : List K} (h : OwnK w base v L) : ∀ k, v.ownBlock = some k → base ≤ k ∧ k < w.heap.size := World.ownsRow.lt h
theorem OwnK.same {w w1 : World} {base : Nat} {v : Value} {L : List K} (h : OwnK w base v L) (hs : ∀ g, v.ownBlock = some g → w1.heap[g]? = w.heap[g]?) : OwnK w1 base v L := by
  obtain ⟨hl, h⟩ := h
  refine ⟨hl, ?_⟩
  rcases h with h | ⟨g, cap, cur, rfl, hg, hh, r⟩
  · exact .inl h
  · exact .inr ⟨g, cap, cur, rfl, hg, (hs g rfl).trans hh, r⟩
theorem OwnK.kept {w w1 : World} {base : Nat} {v : Value} {L : List K} (h : OwnK w base v L) (hb : Below w.heap.size w w1) : OwnK w1 base v L :=
  h.same fun g hg => hb.block g (h.lt g hg).2

theorem infoK : (Tryz.prog.info? 89).map (fun i => (i.zero, i.size, i.bytes)) = some (some (.agg #[.int .i64 0, .int .i64 0]), 2, 16) := by kernel_rfl
/-- append at a slice of keys of the call's own, whatever slice of keys is appended: one equation -/
theorem run_append_keys {w : World} (ty : TypeId) (base : Nat) (v : Value) (L : List K) (hown : OwnK w base v L)
    (ao : Option Addr) (m c : Nat) (M : List K) (hm : m = M.length) (hsrc : KeysAt w ao M) (hnil : ao = none → c = 0) (hlen : (L.length + M.length) * 16 ≤ 140737488355328) (hbase : base ≤ w.heap.size) :
    ∃ v' w', (Builtin.append_ #[44, 44] ty #[v, .slice ao m c]).run Tryz.prog w = .ok v' w' ∧ OwnK w' base v' (L ++ M) ∧ w.grownBy w' v.ownBlock ∧ (v'.ownBlock = v.ownBlock ∨ v'.ownBlock = some w.heap.size) := by
  obtain ⟨i0, hi, hz0, hz1, hz2⟩ := info_parts infoK
  subst hm
  cases ao with
  | none =>
    have h0 : M = [] := by
      rcases hsrc with h1 | ⟨b, off, h1, _⟩
      · exact h1
      · cases h1
    subst h0
    obtain rfl := hnil rfl
    exact ⟨v, w, run_append_owned_none (P := Tryz.prog) (w := w) base 44 ty 89 i0 2 Tryz.underlying44 hi v L.length (cks L) hown, by simpa using hown, World.grownBy.refl _ _, .inl rfl⟩
  | some ad =>
    obtain ⟨v', w', hr, h2, h3, _, h5⟩ := run_append_own_at (P := Tryz.prog) w base 44 ty 89 i0 (.agg #[.int .i64 0, .int .i64 0]) 2 16 Tryz.underlying44 hi hz0 hz1 hz2 rfl (by decide) v L.length (cks L) hown ad M.length c (cks M) (cks_length M)
      (by
        intro j u hu
        rcases hsrc with h0 | ⟨b, off, e, hc⟩
        · subst h0; simp [cks] at hu
        · cases e
          rw [addr_add]; exact hc j u hu) (cks_one M) (by unfold maxLen; omega) hlen hbase
    exact ⟨v', w', hr, by unfold OwnK; rw [List.length_append, cks_append]; exact h2, h3, h5⟩
theorem wpList_append_keys {w : World} {ops : Array Oper} {rest : List Oper} {o : Oper} {a : Act} {Q : Exit → Act → World → Prop} (hgd : o.guard = none) (s x : Operand)
    (ho : o.op = .call { callee := .builtin .append, args := #[s, x], argTypes := #[44, 44] }) (base : Nat) (v : Value) (L : List K) (hs : a.eval s = v) (hown : OwnK w base v L)
    (ao : Option Addr) (m c : Nat) (M : List K) (hx : a.eval x = .slice ao m c) (hm : m = M.length) (hsrc : KeysAt w ao M) (hnil : ao = none → c = 0) (hlen : (L.length + M.length) * 16 ≤ 140737488355328) (hbase : base ≤ w.heap.size)
    (h : ∀ v' w', OwnK w' base v' (L ++ M) → w.grownBy w' v.ownBlock → (v'.ownBlock = v.ownBlock ∨ v'.ownBlock = some w.heap.size) → wpList Tryz.prog ops Q rest (a.put o.dst v') w') : wpList Tryz.prog ops Q (o :: rest) a w := by
  obtain ⟨v', w', hr, h2, h3, h4⟩ := run_append_keys o.type base v L hown ao m c M hm hsrc hnil hlen hbase
  refine wpList_plain hgd fun K hK' => ?_
  unfold Oper.wp
  simp [execOp, ho, resolve, invoke, builtin, hs, hx, hr, Result.andThen]
  exact hK' _ _ (h v' w' h2 h3 h4)
theorem step_append_keys {w : World} {ops : Array Oper} {o : Oper} {a : Act} {K' : Act → World → Prop} {Q : Exit → Act → World → Prop} {E : Prop} (hgd : o.guard = none) (s x : Operand)
    (ho : o.op = .call { callee := .builtin .append, args := #[s, x], argTypes := #[44, 44] }) (base : Nat) (v : Value) (L : List K) (hs : a.eval s = v) (hown : OwnK w base v L)
    (ao : Option Addr) (m c : Nat) (M : List K) (hx : a.eval x = .slice ao m c) (hm : m = M.length) (hsrc : KeysAt w ao M) (hnil : ao = none → c = 0) (hlen : (L.length + M.length) * 16 ≤ 140737488355328) (hbase : base ≤ w.heap.size)
    (h : ∀ v' w', OwnK w' base v' (L ++ M) → w.grownBy w' v.ownBlock → (v'.ownBlock = v.ownBlock ∨ v'.ownBlock = some w.heap.size) → K' (a.put o.dst v') w') :
    if Region.wanted o (yielded ops a.tmps) = true then Oper.wp Tryz.prog o a w K' Q else E := by
  have hw : Region.wanted o (yielded ops a.tmps) = true := by simp [Region.wanted, hgd]
  rw [if_pos hw]
  obtain ⟨v', w', hr, h2, h3, h4⟩ := run_append_keys o.type base v L hown ao m c M hm hsrc hnil hlen hbase
  unfold Oper.wp execOp
  simp only [ho, resolve, invoke, builtin, Sem.run_bind, Sem.run_pure, Result.andThen_ok, List.map_toArray, List.map_cons, List.map_nil, hs, hx, hr]
  exact h v' w' h2 h3 h4
/-- one key, laid for an append -/
theorem key_src (w : World) (B : Nat) (x y : Int) (hB : B = w.heap.size) : KeysAt (w.alloc (.cells #[.int .i64 x, .int .i64 y] 89)) (some ⟨B, 0, none⟩) [(x, y)] := by
  have hb := Box.new (w := w) (b := B) (x := x) (y := y) hB
  refine .inr ⟨B, 0, rfl, fun j u hu => ?_⟩
  match j, hu with
  | 0, hu => simp [cks] at hu; rw [← hu]; exact hb.1
  | 1, hu => simp [cks] at hu; rw [← hu]; exact hb.2
  | j + 2, hu => simp [cks] at hu

theorem grown_below {w w1 : World} {row : Option Nat} {B : Nat} (h : w.grownBy w1 row) (hr : ∀ k, row = some k → B ≤ k) (hB : B ≤ w.heap.size) : Below B w w1 :=
  ⟨h.os, h.tape, h.output, h.size, fun k hk => h.block k (by omega) (fun e => by have := hr k e.symm; omega)⟩

end Go.Proofs.YtcaibgbhebldmaaGreat.Kk
/-
  PROGRAMS AS LISTS OF INSTRUCTIONS: what they take and leave, depths, the longest way.
-/
namespace Go.Proofs.YtcaibgbhebldmaaGreat

/-- an instruction: its Op, its A -/
abbrev K := Int × Int
def In64 (x : Int) : Prop := -9223372036854775808 ≤ x ∧ x ≤ 9223372036854775807
def KIn (k : K) : Prop := In64 k.1 ∧ In64 k.2
def isOpB (op : Int) : Bool := decide (0 ≤ op) && decide (op < 37)

def tkL : List Int := [0, 0, 1, 1, 0, 1, 0, 0, 0, 1, 2, 2, 2, 2, 2, 2, 2, 2, 2, 2, 1, 1, 2, 2, 2, 2, 2, 2, 2, 2, 0, 1, 1, 0, 2, 1, 1]
def lvL : List Int := [0, 1, 0, 2, 1, 0, 1, 1, 1, 1, 1, 1, 1, 1, 1, 1, 1, 1, 1, 1, 1, 1, 1, 1, 1, 1, 1, 1, 1, 1, 0, 0, 0, 0, 0, 0, 0]
def takesN (op : Int) : Int := tkL.getD op.toNat 0
def leavesN (op : Int) : Int := lvL.getD op.toNat 0
theorem op_cases {op : Int} (h : isOpB op = true) : op = 0 ∨ op = 1 ∨ op = 2 ∨ op = 3 ∨ op = 4 ∨ op = 5 ∨ op = 6 ∨ op = 7 ∨ op = 8 ∨ op = 9 ∨ op = 10 ∨ op = 11 ∨ op = 12 ∨ op = 13 ∨ op = 14 ∨ op = 15 ∨ op = 16 ∨ op = 17 ∨ op = 18 ∨ op = 19 ∨ op = 20 ∨ op = 21 ∨ op = 22 ∨ op = 23 ∨ op = 24 ∨ op = 25 ∨ op = 26 ∨ op = 27 ∨ op = 28 ∨ op = 29 ∨ op = 30 ∨ op = 31 ∨ op = 32 ∨ op = 33 ∨ op = 34 ∨ op = 35 ∨ op = 36 := by
  simp only [isOpB, Bool.and_eq_true, decide_eq_true_eq] at h
  omega
theorem takes_bound {op : Int} (h : isOpB op = true) : 0 ≤ takesN op ∧ takesN op ≤ 2 := by
  rcases op_cases h with rfl | rfl | rfl | rfl | rfl | rfl | rfl | rfl | rfl | rfl | rfl | rfl | rfl | rfl | rfl | rfl | rfl | rfl | rfl | rfl | rfl | rfl | rfl | rfl | rfl | rfl | rfl | rfl | rfl | rfl | rfl | rfl | rfl | rfl | rfl | rfl | rfl <;> decide
theorem leaves_bound {op : Int} (h : isOpB op = true) : 0 ≤ leavesN op ∧ leavesN op ≤ 2 := by
  rcases op_cases h with rfl | rfl | rfl | rfl | rfl | rfl | rfl | rfl | rfl | rfl | rfl | rfl | rfl | rfl | rfl | rfl | rfl | rfl | rfl | rfl | rfl | rfl | rfl | rfl | rfl | rfl | rfl | rfl | rfl | rfl | rfl | rfl | rfl | rfl | rfl | rfl | rfl <;> decide

/-- the places to which an instruction goes -/
def nextN (i : Nat) (op a : Int) : List Nat :=
  if op = 0 ∨ op = 36 then [] else if op = 31 then [i + 1, a.toNat] else if op = 30 then [a.toNat] else [i + 1]

/-- a program's numbers -/
structure Nums where
  args : Int
  reads : Int
  writes : Int
  locals : Int
def limB (p : Nums) (n : Nat) : Bool :=
  decide (0 ≤ p.args) && decide (p.args ≤ 16) && (decide (0 ≤ p.reads) && decide (p.reads ≤ 16)) && (decide (0 ≤ p.writes) && decide (p.writes ≤ 16)) && (decide (0 ≤ p.locals) && decide (p.locals ≤ 16)) && decide (n ≤ 256)
theorem limB_iff (p : Nums) (n : Nat) : limB p n = true ↔ (0 ≤ p.args ∧ p.args ≤ 16) ∧ (0 ≤ p.reads ∧ p.reads ≤ 16) ∧ (0 ≤ p.writes ∧ p.writes ≤ 16) ∧ (0 ≤ p.locals ∧ p.locals ≤ 16) ∧ n ≤ 256 := by
  simp only [limB, Bool.and_eq_true, decide_eq_true_eq]; constructor <;> (intro h; simp_all)
/-- below what an instruction's A must lie; -1: any -/
def roomN (p : Nums) (op : Int) : Int :=
  if op = 1 ∨ op = 30 ∨ op = 31 then -1 else if op = 4 ∨ op = 5 then p.locals else if op = 6 then p.args else if op = 7 ∨ op = 8 then p.reads else if op = 32 ∨ op = 33 then p.writes else 1
def fitsB (p : Nums) (op a : Int) : Bool := decide (op = 1 ∨ op = 30 ∨ op = 31) || (decide (0 ≤ a) && decide (a < roomN p op))
def jumpB (op : Int) : Bool := decide (op = 30) || decide (op = 31)
/-- what is wrong with an instruction -/
def lookN (p : Nums) (n i : Nat) (k : K) : Int :=
  if isOpB k.1 = false then 31 else if jumpB k.1 = true ∧ (k.2 ≤ (i : Int) ∨ (n : Int) < k.2) then 33 else if fitsB p k.1 k.2 = false then 32 else 0
/-- the first that is not 0 -/
def firstE (f : Nat → Int) : Nat → Int
  | 0 => 0
  | k + 1 => if firstE f k ≠ 0 then firstE f k else f k
theorem firstE_zero {f : Nat → Int} {k : Nat} (h : firstE f k = 0) : ∀ i, i < k → f i = 0 := by
  induction k with
  | zero => intro i hi; omega
  | succ k ih =>
    intro i hi
    unfold firstE at h
    by_cases h0 : firstE f k ≠ 0
    · rw [if_pos h0] at h; exact absurd h h0
    · rw [if_neg h0] at h
      by_cases hik : i = k
      · rw [hik]; exact h
      · exact ih (by simpa using h0) i (by omega)
theorem firstE_all {f : Nat → Int} {k : Nat} (h : ∀ i, i < k → f i = 0) : firstE f k = 0 := by
  induction k with
  | zero => rfl
  | succ k ih =>
    unfold firstE
    rw [if_neg (by rw [ih (fun i hi => h i (by omega))]; simp)]
    exact h k (by omega)
theorem firstE_stop {f : Nat → Int} {k n : Nat} (h : firstE f k = 0) (hf : f k ≠ 0) (hn : k < n) : firstE f n = f k := by
  induction n with
  | zero => omega
  | succ n ih =>
    unfold firstE
    by_cases hk : k = n
    · subst hk; rw [if_neg (by rw [h]; simp)]
    · have e := ih (by omega)
      rw [if_pos (by rw [e]; exact hf), e]

/-- the j-th instruction -/
def cd (L : List K) (j : Nat) : K := L.getD j (0, 0)
def lookAll (p : Nums) (L : List K) (k : Nat) : Int := firstE (fun i => lookN p L.length i (cd L i)) k
/-- a depth is laid at the places to which one goes -/
def putD (d : List Int) (x : Int) : List Nat → Option (List Int)
  | [] => some d
  | t :: r => if d.getD t 0 ≠ -1 ∧ d.getD t 0 ≠ x then none else putD (d.set t x) x r
def stepD (k : K) (i : Nat) (d : List Int) : Option (List Int) :=
  if d.getD i 0 = -1 then some d
  else if d.getD i 0 - takesN k.1 < 0 ∨ 32 < d.getD i 0 - takesN k.1 + leavesN k.1 then none
  else putD d (d.getD i 0 - takesN k.1 + leavesN k.1) (nextN i k.1 k.2)
def startD (n : Nat) : List Int := 0 :: List.replicate n (-1)
def runD (L : List K) : Nat → Option (List Int)
  | 0 => some (startD L.length)
  | i + 1 => (runD L i).bind (stepD (cd L i) i)
/-- Depths: the list, and the error -/
def depthsN (p : Nums) (L : List K) : List Int × Int :=
  if limB p L.length = false then ([], 30)
  else if lookAll p L L.length ≠ 0 then ([], lookAll p L L.length)
  else match runD L L.length with
    | none => ([], 34)
    | some d => (d, 0)
def verifyN (p : Nums) (L : List K) : Int := (depthsN p L).2
/-- the longest ways from the places on, the last j places having been gone over -/
def mostV (m : List Int) (k : K) (i : Nat) : Int := (nextN i k.1 k.2).foldl (fun a t => max a (m.getD t 0)) 0 + 1
def mostN (L : List K) : Nat → List Int
  | 0 => List.replicate (L.length + 1) 0
  | j + 1 => (mostN L j).set (L.length - 1 - j) (mostV (mostN L j) (cd L (L.length - 1 - j)) (L.length - 1 - j))
def longestN (p : Nums) (L : List K) : Int × Int := if verifyN p L ≠ 0 then (0, verifyN p L) else ((mostN L L.length).getD 0 0, 0)

def NIn (p : Nums) : Prop := In64 p.args ∧ In64 p.reads ∧ In64 p.writes ∧ In64 p.locals
end Go.Proofs.YtcaibgbhebldmaaGreat
