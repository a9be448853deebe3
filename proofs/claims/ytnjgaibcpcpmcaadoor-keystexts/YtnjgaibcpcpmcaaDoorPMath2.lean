/-
  Parse AND Text: there and back; the place.
-/
import Derived.Test.YtnjgaibcpcpmcaaDoorPMath
namespace Go.Proofs.YtnjgaibcpcpmcaaDoor

def textK (k : K) : List UInt8 := Lib.itoa k.1 ++ 58 :: Lib.itoa k.2

theorem num1_true {l : List UInt8} (h : (Dec.num1 l).2 = true) : Lib.itoa (Dec.num1 l).1 = l ∧ In64 (Dec.num1 l).1 := by
  unfold Dec.num1 at *
  split at h
  · rename_i v hv
    split at h
    · rename_i e
      rw [if_pos e]
      exact ⟨e, Dec.parse_bounds hv⟩
    · cases h
  · cases h
theorem num1_of (n : Int) (h : In64 n) : Dec.num1 (Lib.itoa n) = (n, true) := Dec.num1_itoa n h.1 h.2
theorem dd_isD (u : Nat) : ∀ c ∈ Lib.decDigits u, isD c = true := fun c hc => by
  have := Dec.decDigits_digit u c hc
  simp [isD]; omega
theorem dd_head (u : Nat) (hu : u ≠ 0) : ∀ c, (Lib.decDigits u)[0]? = some c → c ≠ 48 := by
  induction u using Nat.strongRecOn with
  | ind u ih =>
    intro c hc
    by_cases h : u < 10
    · rw [Lib.decDigits_one h] at hc
      simp at hc
      intro e
      have h1 := Dec.digit_toNat u h
      have : (48 + UInt8.ofNat u : UInt8).toNat = 48 + u := by rw [← h1, UInt8.ofNat_add]; rfl
      rw [hc, e] at this
      have : (48 : UInt8).toNat = 48 := rfl
      omega
    · rw [Dec.decDigits_rec u h] at hc
      have hl : 0 < (Lib.decDigits (u / 10)).length := List.length_pos_iff.2 (Dec.decDigits_ne _)
      rw [List.getElem?_append_left hl] at hc
      exact ih (u / 10) (by omega) (by omega) c hc
theorem dd_pos (u : Nat) : 0 < (Lib.decDigits u).length := List.length_pos_iff.2 (Dec.decDigits_ne _)
theorem itoa_pos (n : Int) (h : 0 ≤ n) : Lib.itoa n = Lib.decDigits n.toNat := by unfold Lib.itoa; rw [if_neg (by omega)]
theorem itoa_neg (n : Int) (h : n < 0) : Lib.itoa n = 45 :: Lib.decDigits n.natAbs := by unfold Lib.itoa; rw [if_pos h]

theorem run_all (l : List UInt8) (f j : Nat) (h : j < run l f) : ∃ c, l[f + j]? = some c ∧ isD c = true := (run_lt l f j (Nat.le_of_lt h)).1 h
theorem run_end (l : List UInt8) (f : Nat) : ¬ ∃ c, l[f + run l f]? = some c ∧ isD c = true := fun h => Nat.lt_irrefl _ ((run_lt l f _ (Nat.le_refl _)).2 h)
theorem run_unique (l : List UInt8) (f k : Nat) (h1 : ∀ j, j < k → ∃ c, l[f + j]? = some c ∧ isD c = true) (h2 : ¬ ∃ c, l[f + k]? = some c ∧ isD c = true) : run l f = k := by
  rcases Nat.lt_trichotomy (run l f) k with h | h | h
  · exact absurd (h1 _ h) (run_end l f)
  · exact h
  · exact absurd (run_all l f k h) h2
theorem run_piece (P A C : List UInt8) (hA : ∀ c ∈ A, isD c = true) (hC : ∀ c, C[0]? = some c → isD c = false) : run (P ++ A ++ C) P.length = A.length := by
  apply run_unique
  · intro j hj
    rw [List.append_assoc, List.getElem?_append_right (by omega), show P.length + j - P.length = j by omega, List.getElem?_append_left hj, List.getElem?_eq_getElem hj]
    exact ⟨_, rfl, hA _ (List.getElem_mem hj)⟩
  · rintro ⟨c, hc, hd⟩
    rw [List.append_assoc, List.getElem?_append_right (by omega), show P.length + A.length - P.length = A.length by omega, List.getElem?_append_right (Nat.le_refl _), Nat.sub_self] at hc
    rw [hC c hc] at hd; cases hd
/-- the digits of a number that stands there -/
theorem digs_piece (P C : List UInt8) (u : Nat) (hC : ∀ c, C[0]? = some c → isD c = false) : digs (P ++ Lib.decDigits u ++ C) P.length = (P.length + (Lib.decDigits u).length, 0) := by
  have hr := run_piece P (Lib.decDigits u) C (dd_isD u) hC
  have hp := dd_pos u
  unfold digs
  rw [hr, if_neg (by omega), if_neg]
  rintro ⟨h1, h2⟩
  rw [List.append_assoc, List.getElem?_append_right (Nat.le_refl _), Nat.sub_self, List.getElem?_append_left hp] at h1
  by_cases hu : u = 0
  · subst hu
    rw [Lib.decDigits_one (by omega)] at h2
    simp at h2
  · exact dd_head u hu _ h1 rfl

theorem drop_mid (A B : List UInt8) (x : UInt8) : (A ++ x :: B).drop (A.length + 1) = B := by rw [show A ++ x :: B = (A ++ [x]) ++ B by simp, List.drop_left' (by simp)]
theorem parse_text {k : K} (hk : isKey k = true) (h2 : In64 k.2) : parse (textK k) = (k, 0, 0) := by
  obtain ⟨t, r⟩ := k
  have hk' : 0 ≤ t ∧ t ≤ 65535 := by simpa [isKey] using hk
  have ht : In64 t := ⟨by omega, by omega⟩
  have e1 : Lib.itoa t = Lib.decDigits t.toNat := itoa_pos t hk'.1
  have hL : textK (t, r) = [] ++ Lib.decDigits t.toNat ++ 58 :: Lib.itoa r := by unfold textK; rw [e1]; rfl
  have hd := digs_piece [] (58 :: Lib.itoa r) t.toNat (fun c hc => by simp at hc; subst hc; decide)
  rw [← hL] at hd
  simp only [List.length_nil, Nat.zero_add] at hd
  have htk : (textK (t, r)).take (Lib.decDigits t.toNat).length = Lib.itoa t := by rw [hL, e1]; simp
  have htab : tab (textK (t, r)) = (t, (Lib.decDigits t.toNat).length, 0) := by
    unfold tab
    rw [hd]
    simp only [if_true, htk, num1_of t ht]
    rw [if_pos ⟨trivial, hk'.2⟩]
  generalize hn : (Lib.decDigits t.toNat).length = n at *
  have h58 : (textK (t, r))[n]? = some 58 := by rw [hL, List.nil_append, List.getElem?_append_right (by omega)]; simp [hn]
  have hlen : (textK (t, r)).length = n + 1 + (Lib.itoa r).length := by rw [hL]; simp [hn]; omega
  have hrow : rowR (textK (t, r)) (n + 1) = (r, (textK (t, r)).length, 0) := by
    by_cases hr : r < 0
    · have e2 := itoa_neg r hr
      have hL2 : textK (t, r) = (Lib.decDigits t.toNat ++ [58, 45]) ++ Lib.decDigits r.natAbs ++ [] := by rw [hL, e2]; simp
      have hp : (Lib.decDigits t.toNat ++ [58, 45]).length = n + 1 + 1 := by simp [hn]
      have h45 : (textK (t, r))[n + 1]? = some 45 := by rw [hL2, List.append_nil, List.getElem?_append_left (by omega), List.getElem?_append_right (by omega)]; simp [hn]
      have h48 : (textK (t, r))[n + 1 + 1]? ≠ some 48 := by
        rw [hL2, List.append_nil, List.getElem?_append_right (by omega), hp, Nat.sub_self]
        intro h; exact dd_head r.natAbs (by omega) _ h rfl
      have hd2 := digs_piece (Lib.decDigits t.toNat ++ [58, 45]) [] r.natAbs (by simp)
      rw [← hL2, hp] at hd2
      have hE : n + 1 + 1 + (Lib.decDigits r.natAbs).length = (textK (t, r)).length := by rw [hlen, e2]; simp; omega
      rw [hE] at hd2
      unfold rowR
      rw [if_pos h45, if_neg h48]
      unfold rest
      rw [hd2]
      simp only [if_true]
      have hdr : ((textK (t, r)).take (textK (t, r)).length).drop (n + 1) = Lib.itoa r := by rw [List.take_length, hL, List.nil_append, ← hn]; exact drop_mid _ _ _
      rw [hdr, num1_of r h2]
      rfl
    · have e2 := itoa_pos r (by omega)
      have hL2 : textK (t, r) = (Lib.decDigits t.toNat ++ [58]) ++ Lib.decDigits r.toNat ++ [] := by rw [hL, e2]; simp
      have hp : (Lib.decDigits t.toNat ++ [58]).length = n + 1 := by simp [hn]
      have h45 : (textK (t, r))[n + 1]? ≠ some 45 := by
        rw [hL2, List.append_nil, List.getElem?_append_right (by omega), hp, Nat.sub_self]
        intro h
        have := dd_isD r.toNat _ (List.mem_of_getElem? h)
        exact absurd this (by decide)
      have hd2 := digs_piece (Lib.decDigits t.toNat ++ [58]) [] r.toNat (by simp)
      rw [← hL2, hp] at hd2
      have hE : n + 1 + (Lib.decDigits r.toNat).length = (textK (t, r)).length := by rw [hlen, e2]
      rw [hE] at hd2
      unfold rowR
      rw [if_neg h45]
      unfold rest
      rw [hd2]
      simp only [if_true]
      have hdr : ((textK (t, r)).take (textK (t, r)).length).drop (n + 1) = Lib.itoa r := by rw [List.take_length, hL, List.nil_append, ← hn]; exact drop_mid _ _ _
      rw [hdr, num1_of r h2]
      rfl
  unfold parse
  rw [htab]
  simp only [if_true, h58, hrow]
  rw [if_neg (Nat.lt_irrefl _)]

theorem digs_zero {l : List UInt8} {f : Nat} (h : (digs l f).2 = 0) : (digs l f).1 = f + run l f ∧ 0 < run l f := by
  unfold digs at *
  split at h
  · cases h
  · split at h
    · cases h
    · rename_i h1 h2
      rw [if_neg h1, if_neg h2]
      exact ⟨rfl, by omega⟩
theorem parse_back {l : List UInt8} (h : (parse l).2.2 = 0) : isKey (parse l).1 = true ∧ In64 (parse l).1.2 ∧ textK (parse l).1 = l ∧ (parse l).2.1 = 0 := by
  unfold parse at *
  by_cases h1 : (tab l).2.2 = 0
  · rw [if_pos h1] at h ⊢
    by_cases h2 : l[(tab l).2.1]? = some 58
    · rw [if_pos h2] at h ⊢
      by_cases h3 : (rowR l ((tab l).2.1 + 1)).2.2 = 0
      · rw [if_pos h3] at h ⊢
        by_cases h4 : (rowR l ((tab l).2.1 + 1)).2.1 < l.length
        · rw [if_pos h4] at h; cases h
        · rw [if_neg h4]
          -- the table
          have ht : (digs l 0).2 = 0 ∧ (Dec.num1 (l.take (digs l 0).1)).2 = true ∧ (Dec.num1 (l.take (digs l 0).1)).1 ≤ 65535 ∧ tab l = ((Dec.num1 (l.take (digs l 0).1)).1, (digs l 0).1, 0) := by
            unfold tab at h1 ⊢
            split at h1
            · rename_i hd
              split at h1
              · rename_i hn; rw [if_pos hd, if_pos hn]; exact ⟨hd, hn.1, hn.2, rfl⟩
              · cases h1
            · rename_i hd; exact absurd h1 hd
          obtain ⟨hd, hb, hle, htab⟩ := ht
          rw [htab] at h2 h3 h4 ⊢
          simp only at h2 h3 h4 ⊢
          obtain ⟨hD, hrun⟩ := digs_zero hd
          obtain ⟨hit, hin⟩ := num1_true hb
          generalize Dec.num1 (l.take (digs l 0).1) = N at *
          obtain ⟨t, tb⟩ := N
          simp only at hle hit hin ⊢
          generalize (digs l 0).1 = D at *
          have hpos : 0 ≤ t := by
            by_cases hn : 0 ≤ t
            · exact hn
            · rw [itoa_neg t (by omega)] at hit
              obtain ⟨c, hc, hcd⟩ := run_all l 0 0 hrun
              rw [Nat.zero_add] at hc
              have : (l.take D)[0]? = some 45 := by rw [← hit]; rfl
              rw [List.getElem?_take_of_lt (by omega)] at this
              rw [this] at hc
              obtain rfl := Option.some.inj hc
              exact absurd hcd (by decide)
          -- the row
          have hrw : ∃ E, (Dec.num1 ((l.take E).drop (D + 1))).2 = true ∧ rowR l (D + 1) = ((Dec.num1 ((l.take E).drop (D + 1))).1, E, 0) := by
            have key : ∀ g, (rest l (D + 1) g).2.2 = 0 → ∃ E, (Dec.num1 ((l.take E).drop (D + 1))).2 = true ∧ rest l (D + 1) g = ((Dec.num1 ((l.take E).drop (D + 1))).1, E, 0) := by
              intro g hg
              unfold rest at hg ⊢
              split at hg
              · rename_i q
                split at hg
                · rename_i q2; exact ⟨(digs l g).1, q2, by rw [if_pos q, if_pos q2]⟩
                · cases hg
              · rename_i q; exact absurd hg q
            unfold rowR at h3 ⊢
            split at h3
            · rename_i q
              split at h3
              · cases h3
              · rename_i q2; rw [if_pos q, if_neg q2]; exact key _ h3
            · rename_i q; rw [if_neg q]; exact key _ h3
          obtain ⟨E, hEb, hEq⟩ := hrw
          rw [hEq] at h4 ⊢
          simp only at h4 ⊢
          rw [List.take_of_length_le (by omega)] at hEb ⊢
          obtain ⟨rit, rin⟩ := num1_true hEb
          refine ⟨?_, rin, ?_, trivial⟩
          · simp [isKey]; omega
          · unfold textK
            simp only
            rw [hit, rit]
            have hDl : D < l.length := (List.getElem?_eq_some_iff.1 h2).1
            have e3 : l[D] = 58 := (List.getElem?_eq_some_iff.1 h2).2
            conv => rhs; rw [← List.take_append_drop D l, List.drop_eq_getElem_cons hDl, e3]
      · rw [if_neg h3] at h; exact absurd h h3
    · rw [if_neg h2] at h; cases h
  · rw [if_neg h1] at h; exact absurd h h1

/-! the place -/
theorem digs_err (l : List UInt8) (f : Nat) : (digs l f).2 = 0 ∨ (digs l f).2 = 40 := by
  unfold digs; split
  · exact .inr rfl
  · split
    · exact .inr rfl
    · exact .inl rfl
theorem tab_err (l : List UInt8) : (tab l).2.2 = 0 ∨ (tab l).2.2 = 40 ∨ (tab l).2.2 = 41 := by
  unfold tab; split
  · split
    · exact .inl rfl
    · exact .inr (.inr rfl)
  · rcases digs_err l 0 with h | h
    · exact .inl h
    · exact .inr (.inl h)
theorem rest_err (l : List UInt8) (f g : Nat) : (rest l f g).2.2 = 0 ∨ (rest l f g).2.2 = 40 ∨ (rest l f g).2.2 = 41 := by
  unfold rest; split
  · split
    · exact .inl rfl
    · exact .inr (.inr rfl)
  · rcases digs_err l g with h | h
    · exact .inl h
    · exact .inr (.inl h)
theorem rowR_err (l : List UInt8) (f : Nat) : (rowR l f).2.2 = 0 ∨ (rowR l f).2.2 = 40 ∨ (rowR l f).2.2 = 41 := by
  unfold rowR; split
  · split
    · exact .inr (.inl rfl)
    · exact rest_err _ _ _
  · exact rest_err _ _ _
theorem tab_le' (l : List UInt8) : (tab l).2.1 ≤ l.length := by
  have := digs_le l 0 (Nat.zero_le _)
  unfold tab; split
  · split
    · exact this
    · exact Nat.zero_le _
  · exact this
theorem rest_le (l : List UInt8) (f g : Nat) (hf : f ≤ l.length) (hg : g ≤ l.length) : (rest l f g).2.1 ≤ l.length := by
  have := digs_le l g hg
  unfold rest; split
  · split
    · exact this
    · exact hf
  · exact this
theorem rowR_le (l : List UInt8) (f : Nat) (hf : f ≤ l.length) : (rowR l f).2.1 ≤ l.length := by
  unfold rowR; split
  · rename_i h
    have : f < l.length := (List.getElem?_eq_some_iff.1 h).1
    split
    · exact this
    · exact rest_le l f (f + 1) hf this
  · exact rest_le l f f hf hf
/-- what is wrong, and where -/
theorem parse_err (l : List UInt8) : (parse l).2.2 = 0 ∨ ((parse l).1 = (0, 0) ∧ (parse l).2.1 ≤ l.length ∧ ((parse l).2.2 = 40 ∨ (parse l).2.2 = 41)) := by
  have h1 := tab_err l
  have h2 := rowR_err l ((tab l).2.1 + 1)
  have h3 := tab_le' l
  unfold parse
  split
  · split
    · rename_i hc
      have h4 := rowR_le l ((tab l).2.1 + 1) (List.getElem?_eq_some_iff.1 hc).1
      split
      · split
        · exact .inr ⟨rfl, h4, .inl rfl⟩
        · exact .inl rfl
      · rename_i h5
        exact .inr ⟨rfl, h4, by rcases h2 with h | h; exact absurd h h5; exact h⟩
    · exact .inr ⟨rfl, h3, .inl rfl⟩
  · rename_i h5
    exact .inr ⟨rfl, h3, by rcases h1 with h | h; exact absurd h h5; exact h⟩

/-- two texts that agree up to a place -/
def Ag (l m : List UInt8) (n : Nat) : Prop := ∀ i, i < n → m[i]? = l[i]?
theorem Ag.take {l m : List UInt8} {n : Nat} (h : Ag l m n) (k : Nat) (hk : k ≤ n) : m.take k = l.take k := by
  apply List.ext_getElem?
  intro i
  by_cases hi : i < k
  · rw [List.getElem?_take_of_lt hi, List.getElem?_take_of_lt hi]; exact h i (by omega)
  · rw [List.getElem?_take_eq_none (by omega), List.getElem?_take_eq_none (by omega)]
theorem Ag.eqRun {l m : List UInt8} {n : Nat} (h : Ag l m n) (f : Nat) (hf : f + run l f ≤ n) (he : ¬ ∃ c, m[f + run l f]? = some c ∧ isD c = true) : run m f = run l f := by
  apply run_unique
  · intro j hj
    rw [h (f + j) (by omega)]
    exact run_all l f j hj
  · exact he
theorem Ag.eqRunIn {l m : List UInt8} {n : Nat} (h : Ag l m n) (f : Nat) (hf : f + run l f < n) : run m f = run l f :=
  h.eqRun f (by omega) (by rw [h _ hf]; exact run_end l f)
theorem Ag.eqDigs {l m : List UInt8} {n : Nat} (h : Ag l m n) (f : Nat) (hr : run m f = run l f) (hf : f < n) : digs m f = digs l f := by
  unfold digs
  rw [hr, h f hf]
theorem Ag.eqTab {l m : List UInt8} {n : Nat} (h : Ag l m n) (hr : run m 0 = run l 0) (hn : 0 < n) (hd : (digs l 0).1 ≤ n) : tab m = tab l := by
  have h1 := h.eqDigs 0 hr hn
  unfold tab
  rw [h1, h.take _ hd]
theorem Ag.eqRest {l m : List UInt8} {n : Nat} (h : Ag l m n) (f g : Nat) (hr : run m g = run l g) (hg : g < n) (hd : (digs l g).1 ≤ n) : rest m f g = rest l f g := by
  have h1 := h.eqDigs g hr hg
  unfold rest
  rw [h1, h.take _ hd]
theorem num1_zero : Dec.num1 [48] = (0, true) := by
  have h := num1_of 0 ⟨by omega, by omega⟩
  have e : Lib.itoa 0 = [48] := by rw [itoa_pos 0 (by omega), show (0 : Int).toNat = 0 from rfl, Lib.decDigits_one (by omega)]; rfl
  rwa [e] at h
/-- the table, where its number is behind -/
theorem tab_ok {l : List UInt8} (h : (tab l).2.2 = 0) : (digs l 0).2 = 0 ∧ (tab l).2.1 = run l 0 ∧ 0 < run l 0 := by
  unfold tab at h ⊢
  split at h
  · rename_i hd
    split at h
    · rename_i hn
      rw [if_pos hd, if_pos hn]
      have := digs_zero hd
      exact ⟨hd, by simp only; omega, this.2⟩
    · cases h
  · rename_i hd; exact absurd h hd

/-- what is wrong of the digits -/
theorem digs_40 {l : List UInt8} {f : Nat} (h : (digs l f).2 ≠ 0) : (run l f = 0 ∧ digs l f = (f, 40)) ∨ (l[f]? = some 48 ∧ 1 < run l f ∧ digs l f = (f + 1, 40)) := by
  unfold digs at *
  split at h
  · rename_i h1; rw [if_pos h1]; exact .inl ⟨h1, rfl⟩
  · rename_i h1
    split at h
    · rename_i h2; rw [if_neg h1, if_pos h2]; exact .inr ⟨h2.1, h2.2, rfl⟩
    · exact absurd rfl h
/-- the digits where a text has been cut, or gone on, behind a place -/
theorem digs_more {l m : List UInt8} {f : Nat} (h : (digs l f).2 ≠ 0) (ha : Ag l m ((digs l f).1 + 1)) : digs m f = digs l f := by
  rcases digs_40 h with ⟨h1, h2⟩ | ⟨h1, h2, h3⟩
  · rw [h2] at ha ⊢
    have hr : run m f = 0 := by
      have := ha.eqRunIn f (by rw [h1]; omega)
      rw [this, h1]
    unfold digs; rw [if_pos hr]
  · rw [h3] at ha ⊢
    simp only at ha
    have hr : 1 < run m f := by
      have a0 : 0 < run m f := (run_lt m f 0 (Nat.zero_le _)).2 (by rw [ha _ (by omega)]; exact run_all l f 0 (by omega))
      exact (run_lt m f 1 a0).2 (by rw [ha _ (by omega)]; exact run_all l f 1 h2)
    unfold digs
    rw [if_neg (by omega), if_pos ⟨by rw [ha f (by omega)]; exact h1, hr⟩]

theorem parse_more {l m : List UInt8} (h : (parse l).2.2 = 40) (ha : Ag l m ((parse l).2.1 + 1)) (hl : (parse l).2.1 < l.length) : parse m = ((0, 0), (parse l).2.1, 40) := by
  unfold parse at h ha hl ⊢
  by_cases h1 : (tab l).2.2 = 0
  · obtain ⟨hd, hD, hrun⟩ := tab_ok h1
    have hdz := digs_zero hd
    rw [if_pos h1] at h ha hl ⊢
    by_cases h2 : l[(tab l).2.1]? = some 58
    · rw [if_pos h2] at h ha hl ⊢
      -- the table is the same, wherever the row is wrong
      have key : ∀ n, (tab l).2.1 + 1 < n → Ag l m n → tab m = tab l := fun n hn hA => hA.eqTab (hA.eqRunIn 0 (by omega)) (by omega) (by omega)
      by_cases h3 : (rowR l ((tab l).2.1 + 1)).2.2 = 0
      · rw [if_pos h3] at h ha hl ⊢
        by_cases h4 : (rowR l ((tab l).2.1 + 1)).2.1 < l.length
        · rw [if_pos h4] at ha hl ⊢
          simp only at ha hl ⊢
          have hrow : rowR m ((tab l).2.1 + 1) = rowR l ((tab l).2.1 + 1) ∧ (tab l).2.1 + 1 < (rowR l ((tab l).2.1 + 1)).2.1 := by
            generalize (tab l).2.1 + 1 = f at *
            have go : ∀ g, f ≤ g → (rest l f g).2.2 = 0 → Ag l m ((rest l f g).2.1 + 1) → rest m f g = rest l f g ∧ g < (rest l f g).2.1 := by
              intro g hg h0 hA
              have hE : (digs l g).2 = 0 ∧ (rest l f g).2.1 = (digs l g).1 := by
                unfold rest at h0 ⊢
                split at h0
                · rename_i q
                  split at h0
                  · rename_i q2; rw [if_pos q, if_pos q2]; exact ⟨q, rfl⟩
                  · cases h0
                · rename_i q; exact absurd h0 q
              have hz := digs_zero hE.1
              rw [hE.2] at hA ⊢
              exact ⟨hA.eqRest f g (hA.eqRunIn g (by omega)) (by omega) (by omega), by omega⟩
            unfold rowR at h3 ha hl ⊢
            by_cases q : l[f]? = some 45
            · rw [if_pos q] at h3 ha hl ⊢
              by_cases q2 : l[f + 1]? = some 48
              · rw [if_pos q2] at h3; cases h3
              · rw [if_neg q2] at h3 ha hl ⊢
                have hgo := go (f + 1) (by omega) h3 ha
                rw [ha f (by omega), ha (f + 1) (by omega), if_pos q, if_neg q2]
                exact ⟨hgo.1, by omega⟩
            · rw [if_neg q] at h3 ha hl ⊢
              have hgo := go f (Nat.le_refl _) h3 ha
              rw [ha f (by omega), if_neg q]
              exact ⟨hgo.1, by omega⟩
          have ht := key _ (by omega) ha
          rw [ht, if_pos h1, ha _ (by omega), if_pos h2, hrow.1, if_pos h3, if_pos]
          have : m[(rowR l ((tab l).2.1 + 1)).2.1]? = l[(rowR l ((tab l).2.1 + 1)).2.1]? := ha _ (by omega)
          rw [List.getElem?_eq_getElem hl] at this
          exact (List.getElem?_eq_some_iff.1 this).1
        · rw [if_neg h4] at h; cases h
      · rw [if_neg h3] at h ha hl ⊢
        simp only at h ha hl ⊢
        have hrow : rowR m ((tab l).2.1 + 1) = (0, (rowR l ((tab l).2.1 + 1)).2.1, 40) ∧ (tab l).2.1 + 1 ≤ (rowR l ((tab l).2.1 + 1)).2.1 := by
          generalize (tab l).2.1 + 1 = f at *
          have go : ∀ g, (rest l f g).2.2 = 40 → Ag l m ((rest l f g).2.1 + 1) → rest m f g = (0, (rest l f g).2.1, 40) ∧ g ≤ (rest l f g).2.1 := by
            intro g h0 hA
            have hE : (digs l g).2 ≠ 0 ∧ rest l f g = (0, (digs l g).1, (digs l g).2) := by
              unfold rest at h0 ⊢
              split at h0
              · split at h0 <;> cases h0
              · rename_i q; rw [if_neg q]; exact ⟨q, rfl⟩
            rw [hE.2] at hA h0 ⊢
            simp only at hA h0 ⊢
            have hm := digs_more hE.1 hA
            refine ⟨?_, digs_ge l g⟩
            unfold rest
            rw [hm, if_neg hE.1, h0]
          unfold rowR at h ha hl ⊢
          by_cases q : l[f]? = some 45
          · rw [if_pos q] at h ha hl ⊢
            by_cases q2 : l[f + 1]? = some 48
            · rw [if_pos q2] at h ha hl ⊢
              simp only at ha hl ⊢
              rw [ha f (by omega), ha (f + 1) (by omega), if_pos q, if_pos q2]
              exact ⟨rfl, by omega⟩
            · rw [if_neg q2] at h ha hl ⊢
              have hgo := go (f + 1) h ha
              rw [ha f (by omega), ha (f + 1) (by omega), if_pos q, if_neg q2]
              exact ⟨hgo.1, by omega⟩
          · rw [if_neg q] at h ha hl ⊢
            have hgo := go f h ha
            rw [ha f (by omega), if_neg q]
            exact ⟨hgo.1, by omega⟩
        have ht := key _ (by omega) ha
        rw [ht, if_pos h1, ha _ (by omega), if_pos h2, hrow.1]
        rfl
    · rw [if_neg h2] at ha hl ⊢
      simp only at ha hl ⊢
      have ht : tab m = tab l := ha.eqTab (ha.eqRunIn 0 (by omega)) (by omega) (by omega)
      rw [ht, if_pos h1, ha _ (by omega), if_neg h2]
  · rw [if_neg h1] at h ha hl ⊢
    simp only at h ha hl ⊢
    have hE : (digs l 0).2 ≠ 0 ∧ tab l = (0, (digs l 0).1, (digs l 0).2) := by
      unfold tab at h ⊢
      split at h
      · split at h <;> cases h
      · rename_i q; rw [if_neg q]; exact ⟨q, rfl⟩
    rw [hE.2] at h ha ⊢
    simp only at h ha ⊢
    have hm := digs_more hE.1 ha
    have ht : tab m = (0, (digs l 0).1, 40) := by unfold tab; rw [hm, if_neg hE.1, h]
    rw [ht]
    rfl

/-- a text that is cut at the place -/
theorem ag_take (l : List UInt8) (n : Nat) : Ag l (l.take n) n := fun _ hi => List.getElem?_take_of_lt hi
theorem none_take (l : List UInt8) (n : Nat) : (l.take n)[n]? = none := List.getElem?_take_eq_none (Nat.le_refl _)
theorem parse_cut {l : List UInt8} (h : (parse l).2.2 = 40) : (parse (l.take (parse l).2.1)).2.2 = 0 ∨ ((parse (l.take (parse l).2.1)).2.2 = 40 ∧ (parse (l.take (parse l).2.1)).2.1 = (parse l).2.1) := by
  have hle : (parse l).2.1 ≤ l.length := by
    rcases parse_err l with h0 | h0
    · rw [h0] at h; cases h
    · exact h0.2.1
  generalize hp : (parse l).2.1 = p at *
  have ha := ag_take l p
  have hn := none_take l p
  have hlen : (l.take p).length = p := by simp; omega
  generalize l.take p = m at *
  unfold parse at h hp
  by_cases h1 : (tab l).2.2 = 0
  · obtain ⟨hd, hD, hrun⟩ := tab_ok h1
    have hdz := digs_zero hd
    rw [if_pos h1] at h hp
    by_cases h2 : l[(tab l).2.1]? = some 58
    · rw [if_pos h2] at h hp
      have key : (tab l).2.1 < p → tab m = tab l := fun hq => ha.eqTab (ha.eqRunIn 0 (by omega)) (by omega) (by omega)
      by_cases h3 : (rowR l ((tab l).2.1 + 1)).2.2 = 0
      · rw [if_pos h3] at h hp
        by_cases h4 : (rowR l ((tab l).2.1 + 1)).2.1 < l.length
        · rw [if_pos h4] at hp
          simp only at hp
          left
          have hrow : rowR m ((tab l).2.1 + 1) = rowR l ((tab l).2.1 + 1) ∧ (tab l).2.1 + 1 < p := by
            generalize (tab l).2.1 + 1 = f at *
            have go : ∀ g, (rest l f g).2.2 = 0 → (rest l f g).2.1 = p → rest m f g = rest l f g ∧ g < p := by
              intro g h0 hA
              have hE : (digs l g).2 = 0 ∧ (rest l f g).2.1 = (digs l g).1 := by
                unfold rest at h0 ⊢
                split at h0
                · rename_i q
                  split at h0
                  · rename_i q2; rw [if_pos q, if_pos q2]; exact ⟨q, rfl⟩
                  · cases h0
                · rename_i q; exact absurd h0 q
              have hz := digs_zero hE.1
              rw [hE.2] at hA
              have hg : g + run l g = p := by omega
              exact ⟨ha.eqRest f g (ha.eqRun g (by omega) (by rw [hg, hn]; rintro ⟨c, hc, _⟩; cases hc)) (by omega) (by omega), by omega⟩
            unfold rowR at h3 hp ⊢
            by_cases q : l[f]? = some 45
            · rw [if_pos q] at h3 hp ⊢
              by_cases q2 : l[f + 1]? = some 48
              · rw [if_pos q2] at h3; cases h3
              · rw [if_neg q2] at h3 hp ⊢
                have hgo := go (f + 1) h3 hp
                rw [ha f (by omega), ha (f + 1) (by omega), if_pos q, if_neg q2]
                exact ⟨hgo.1, by omega⟩
            · rw [if_neg q] at h3 hp ⊢
              have hgo := go f h3 hp
              rw [ha f (by omega), if_neg q]
              exact ⟨hgo.1, by omega⟩
          have ht := key (by omega)
          unfold parse
          rw [ht, if_pos h1, ha _ (by omega), if_pos h2, hrow.1, if_pos h3, if_neg (by rw [hp, hlen]; exact Nat.lt_irrefl _)]
        · rw [if_neg h4] at h; cases h
      · rw [if_neg h3] at h hp
        simp only at h hp
        have hrow : ((rowR m ((tab l).2.1 + 1)).2.2 = 40 ∧ (rowR m ((tab l).2.1 + 1)).2.1 = p ∨ (rowR m ((tab l).2.1 + 1)).2.2 = 0 ∧ (rowR m ((tab l).2.1 + 1)).2.1 = p) ∧ (tab l).2.1 + 1 ≤ p := by
          generalize (tab l).2.1 + 1 = f at *
          have go : ∀ g, f ≤ g → (rest l f g).2.2 = 40 → (rest l f g).2.1 = p → (g = f ∨ l[g]? ≠ some 48) → ((rest m f g).2.2 = 40 ∧ (rest m f g).2.1 = p ∨ (rest m f g).2.2 = 0 ∧ (rest m f g).2.1 = p) ∧ g ≤ p ∧ (digs l g = (g, 40) ∨ g < p) := by
            intro g hfg h0 hA hz
            have hE : (digs l g).2 ≠ 0 ∧ rest l f g = (0, (digs l g).1, (digs l g).2) := by
              unfold rest at h0 ⊢
              split at h0
              · split at h0 <;> cases h0
              · rename_i q; rw [if_neg q]; exact ⟨q, rfl⟩
            rw [hE.2] at hA h0
            simp only at hA h0
            rcases digs_40 hE.1 with ⟨e1, e2⟩ | ⟨e1, e2, e3⟩
            · rw [e2] at hA
              simp only at hA
              subst hA
              have hr : run m g = 0 := run_unique m g 0 (fun j hj => by omega) (by rw [Nat.add_zero, hn]; rintro ⟨c, hc, _⟩; cases hc)
              have hdm : digs m g = (g, 40) := by unfold digs; rw [if_pos hr]
              refine ⟨.inl ?_, Nat.le_refl _, .inl e2⟩
              unfold rest
              rw [hdm]
              exact ⟨rfl, rfl⟩
            · have hgf : g = f := by
                rcases hz with h5 | h5
                · exact h5
                · exact absurd e1 h5
              subst hgf
              rw [e3] at hA
              simp only at hA
              subst hA
              have hr : run m g = 1 := run_unique m g 1 (fun j hj => by
                obtain rfl : j = 0 := by omega
                rw [ha _ (by omega)]; exact run_all l g 0 (by omega)) (by rw [hn]; rintro ⟨c, hc, _⟩; cases hc)
              have hdm : digs m g = (g + 1, 0) := by unfold digs; rw [hr, if_neg (by omega), if_neg (by rintro ⟨_, h9⟩; omega)]
              have hpc : (m.take (g + 1)).drop g = [48] := by
                rw [List.take_of_length_le (by omega)]
                have hg1 : g < m.length := by omega
                have hmg : m[g]? = some 48 := by rw [ha g (by omega)]; exact e1
                rw [List.drop_eq_getElem_cons hg1, (List.getElem?_eq_some_iff.1 hmg).2, List.drop_of_length_le (by omega)]
              refine ⟨.inr ?_, by omega, .inr (by omega)⟩
              unfold rest
              rw [hdm]
              simp only [if_true, hpc, num1_zero]
              exact ⟨trivial, trivial⟩
          unfold rowR at h hp ⊢
          by_cases q : l[f]? = some 45
          · rw [if_pos q] at h hp
            by_cases q2 : l[f + 1]? = some 48
            · rw [if_pos q2] at h hp
              simp only at hp
              subst hp
              have hr : run m (f + 1) = 0 := run_unique m (f + 1) 0 (fun j hj => by omega) (by rw [Nat.add_zero, hn]; rintro ⟨c, hc, _⟩; cases hc)
              have hdm : digs m (f + 1) = (f + 1, 40) := by unfold digs; rw [if_pos hr]
              rw [ha f (by omega), if_pos q, hn, if_neg (by simp)]
              refine ⟨.inl ?_, by omega⟩
              unfold rest
              rw [hdm]
              exact ⟨rfl, rfl⟩
            · rw [if_neg q2] at h hp
              have hgo := go (f + 1) (by omega) h hp (.inr q2)
              rw [ha f (by omega), if_pos q]
              have hm1 : m[f + 1]? ≠ some 48 := by
                by_cases hx : f + 1 < p
                · rw [ha _ hx]; exact q2
                · have : f + 1 = p := by omega
                  rw [this, hn]; simp
              rw [if_neg hm1]
              exact ⟨hgo.1, by omega⟩
          · rw [if_neg q] at h hp
            have hgo := go f (Nat.le_refl _) h hp (.inl rfl)
            have hm1 : m[f]? ≠ some 45 := by
              by_cases hx : f < p
              · rw [ha _ hx]; exact q
              · have : f = p := by omega
                rw [this, hn]; simp
            rw [if_neg hm1]
            exact ⟨hgo.1, hgo.2.1⟩
        have ht := key (by omega)
        unfold parse
        rw [ht, if_pos h1, ha _ (by omega), if_pos h2]
        rcases hrow.1 with ⟨r1, r2⟩ | ⟨r1, r2⟩
        · right
          rw [if_neg (by rw [r1]; decide)]
          exact ⟨r1, r2⟩
        · left
          rw [if_pos r1, if_neg (by rw [r2, hlen]; exact Nat.lt_irrefl _)]
    · rw [if_neg h2] at hp
      simp only at hp
      right
      have ht : tab m = tab l := ha.eqTab (ha.eqRun 0 (by omega) (by rw [show 0 + run l 0 = p by omega, hn]; rintro ⟨c, hc, _⟩; cases hc)) (by omega) (by omega)
      unfold parse
      rw [ht, if_pos h1, hp, hn, if_neg (by simp)]
      exact ⟨rfl, rfl⟩
  · rw [if_neg h1] at h hp
    simp only at h hp
    have hE : (digs l 0).2 ≠ 0 ∧ tab l = (0, (digs l 0).1, (digs l 0).2) := by
      unfold tab at h ⊢
      split at h
      · split at h <;> cases h
      · rename_i q; rw [if_neg q]; exact ⟨q, rfl⟩
    rw [hE.2] at h hp
    simp only at h hp
    right
    rcases digs_40 hE.1 with ⟨e1, e2⟩ | ⟨e1, e2, e3⟩
    · rw [e2] at hp
      simp only at hp
      subst hp
      have hr : run m 0 = 0 := run_unique m 0 0 (fun j hj => by omega) (by rw [Nat.add_zero, hn]; rintro ⟨c, hc, _⟩; cases hc)
      have hdm : digs m 0 = (0, 40) := by unfold digs; rw [if_pos hr]
      have ht : tab m = (0, 0, 40) := by unfold tab; rw [hdm]; rfl
      unfold parse
      rw [ht]
      exact ⟨rfl, rfl⟩
    · rw [e3] at hp
      simp only [Nat.zero_add] at hp
      subst hp
      have hr : run m 0 = 1 := run_unique m 0 1 (fun j hj => by
        obtain rfl : j = 0 := by omega
        rw [ha _ (by omega)]; exact run_all l 0 0 (by omega)) (by rw [Nat.zero_add, hn]; rintro ⟨c, hc, _⟩; cases hc)
      have hdm : digs m 0 = (1, 0) := by unfold digs; rw [hr, if_neg (by omega), if_neg (by rintro ⟨_, h9⟩; omega)]
      have hpc : m.take 1 = [48] := by
        rw [List.take_of_length_le (by omega)]
        have hmg : m[0]? = some 48 := by rw [ha 0 (by omega)]; exact e1
        cases m with
        | nil => cases hmg
        | cons c m' =>
          simp at hmg hlen
          subst hmg hlen
          rfl
      have ht : tab m = (0, 1, 0) := by
        unfold tab
        rw [hdm]
        simp only [if_true, hpc, num1_zero]
        rfl
      unfold parse
      rw [ht]
      simp only [if_true, hn]
      exact ⟨rfl, rfl⟩

end Go.Proofs.YtnjgaibcpcpmcaaDoor
