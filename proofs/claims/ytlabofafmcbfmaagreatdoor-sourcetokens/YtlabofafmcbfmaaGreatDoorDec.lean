/-
  PLAIN MATHEMATICS OF NUMBERS AS TEXT (promise 1.9). No program, no dump.
-/
import Derived.Lib.ParseIntB
import Derived.Lib.ItoaNum
import Derived.Lib.ItoaLen
namespace Go.Proofs.YtlabofafmcbfmaaGreatDoor.Dec
open Go.Lib

theorem decDigits_rec (u : Nat) (h : ¬ u < 10) : decDigits u = decDigits (u / 10) ++ [UInt8.ofNat (48 + u % 10)] := by
  rw [decDigits, dif_neg h]
theorem digit_toNat (d : Nat) (h : d < 10) : (UInt8.ofNat (48 + d)).toNat = 48 + d := by
  rw [UInt8.toNat_ofNat']; omega
theorem decDigits_ne (u : Nat) : decDigits u ≠ [] := by
  rw [decDigits]; split <;> simp
/-- every sign is a digit -/
theorem decDigits_digit (u : Nat) : ∀ c ∈ decDigits u, 48 ≤ c.toNat ∧ c.toNat ≤ 57 := by
  induction u using Nat.strongRecOn with
  | _ u ih =>
    intro c hc
    by_cases h : u < 10
    · rw [decDigits_one h] at hc
      simp only [List.mem_cons, List.not_mem_nil, or_false] at hc
      subst hc; rw [digit_toNat u h]; omega
    · rw [decDigits_rec u h] at hc
      rcases List.mem_append.1 hc with h1 | h1
      · exact ih (u / 10) (by omega) c h1
      · simp only [List.mem_cons, List.not_mem_nil, or_false] at h1
        subst h1; rw [digit_toNat _ (by omega)]; omega

/-! strconv's reading -/
theorem parse_snoc (M : Nat) (c : UInt8) : ∀ (xs : List UInt8) (acc : Nat), parseUintM M acc (xs ++ [c]) = match parseUintM M acc xs with
    | .ok a => parseUintM M a [c]
    | e => e
  | [], acc => by simp [parseUintM]
  | x :: xs, acc => by
    simp only [List.cons_append, parseUintM]
    by_cases h1 : 48 ≤ x.toNat ∧ x.toNat ≤ 57
    · simp only [h1, and_self, if_true]
      by_cases h2 : 1844674407370955162 ≤ acc
      · simp [h2]
      · by_cases h3 : M < acc * 10 + (x.toNat - 48)
        · simp [h2, h3]
        · simp only [h2, h3, if_false]
          have := parse_snoc M c xs (acc * 10 + (x.toNat - 48))
          simpa [parseUintM] using this
    · simp [h1]
theorem parse_digits (u : Nat) (h : u < 18446744073709551616) : parseUintM (2 ^ 64 - 1) 0 (decDigits u) = .ok u := by
  induction u using Nat.strongRecOn with
  | _ u ih =>
    by_cases h10 : u < 10
    · rw [decDigits_one h10]
      simp only [parseUintM, digit_toNat u h10]
      rw [if_pos (by omega), if_neg (by omega), if_neg (by omega)]
      simp
    · rw [decDigits_rec u h10, parse_snoc, ih (u / 10) (by omega) (by omega)]
      simp only [parseUintM, digit_toNat (u % 10) (by omega)]
      rw [if_pos (by omega), if_neg (by omega), if_neg (by omega)]
      congr 1
      omega
theorem head_digit (u : Nat) : ∃ c r, decDigits u = c :: r ∧ 48 ≤ c.toNat ∧ c.toNat ≤ 57 := by
  have hd := decDigits_digit u
  cases h : decDigits u with
  | nil => exact absurd h (decDigits_ne u)
  | cons c r => rw [h] at hd; exact ⟨c, r, rfl, hd c (by simp)⟩
/-- a number's text is read back -/
theorem parse_itoa (n : Int) (h0 : -9223372036854775808 ≤ n) (h1 : n ≤ 9223372036854775807) : parseIntB 64 (itoa n) = .ok n := by
  unfold itoa
  by_cases hn : n < 0
  · rw [if_pos hn]
    simp only [parseIntB]
    have e : (45 : UInt8).toNat = 45 := rfl
    simp only [e, or_true, if_true, parseUintB]
    rw [if_neg (decDigits_ne _), parse_digits _ (by omega)]
    simp only [not_true, false_and, if_false, true_and]
    rw [if_neg (by omega)]
    congr 1
    omega
  · rw [if_neg hn]
    obtain ⟨c, r, hc, h48, h57⟩ := head_digit n.toNat
    have hp := parse_digits n.toNat (by omega)
    rw [hc] at hp ⊢
    simp only [parseIntB]
    rw [if_neg (by omega)]
    simp only [parseUintB]
    rw [if_neg (by simp), hp]
    have h45 : ¬ c.toNat = 45 := by omega
    simp only [h45, not_false_eq_true, true_and, false_and, if_false]
    rw [if_neg (by omega)]
    congr 1
    omega
theorem parse_bounds {l : List UInt8} {v : Int} (h : parseIntB 64 l = .ok v) : -9223372036854775808 ≤ v ∧ v ≤ 9223372036854775807 := by
  unfold parseIntB at h
  split at h
  · cases h
  · simp only at h
    split at h
    · cases h
    · cases h
    · split at h
      · cases h
      · split at h
        · cases h
        · rename_i h1 h2
          cases h
          split <;> omega

/-! the document's reckoning -/
def add1 (m : Nat) (c : UInt8) : Nat := if 48 ≤ c.toNat ∧ c.toNat ≤ 57 then (10 * m + (c.toNat - 48)) % 18446744073709551616 else m
def mag (l : List UInt8) : Nat := l.foldl add1 0
theorem mag_digits (u : Nat) (h : u < 18446744073709551616) : (decDigits u).foldl add1 0 = u := by
  induction u using Nat.strongRecOn with
  | _ u ih =>
    by_cases h10 : u < 10
    · rw [decDigits_one h10]
      simp only [List.foldl_cons, List.foldl_nil, add1, digit_toNat u h10]
      rw [if_pos (by omega)]
      omega
    · rw [decDigits_rec u h10, List.foldl_append, ih (u / 10) (by omega) (by omega)]
      simp only [List.foldl_cons, List.foldl_nil, add1, digit_toNat (u % 10) (by omega)]
      rw [if_pos (by omega)]
      omega
theorem add1_lt (m : Nat) (c : UInt8) (h : m < 18446744073709551616) : add1 m c < 18446744073709551616 := by
  unfold add1; split <;> omega
theorem mag_lt (l : List UInt8) : ∀ m, m < 18446744073709551616 → l.foldl add1 m < 18446744073709551616 := by
  induction l with
  | nil => intro m h; exact h
  | cons c l ih => intro m h; exact ih _ (add1_lt m c h)
/-- as int64 -/
def asInt (m : Nat) : Int := if m < 9223372036854775808 then (m : Int) else (m : Int) - 18446744073709551616
/-- the number that a text may be: reckoned of its first twenty signs, then the sign -/
def cand (l : List UInt8) : Int :=
  asInt (if l.head? = some 45 then (18446744073709551616 - mag (l.take 20)) % 18446744073709551616 else mag (l.take 20))
theorem cand_bounds (l : List UInt8) : -9223372036854775808 ≤ cand l ∧ cand l ≤ 9223372036854775807 := by
  have h := mag_lt (l.take 20) 0 (by omega)
  have h' : mag (l.take 20) < 18446744073709551616 := h
  unfold cand asInt
  split <;> split <;> omega
theorem len_digits (u : Nat) (h : u ≤ 9223372036854775808) : (decDigits u).length ≤ 19 := by
  have key : ∀ k u, u < 10 ^ (k + 1) → (decDigits u).length ≤ k + 1 := by
    intro k
    induction k with
    | zero => intro u hu; rw [decDigits_one (by simpa using hu)]; simp
    | succ k ih =>
      intro u hu
      by_cases h10 : u < 10
      · rw [decDigits_one h10]; simp
      · rw [decDigits_rec u h10, List.length_append]
        have := ih (u / 10) (by rw [Nat.pow_succ] at hu; omega)
        simp only [List.length_cons, List.length_nil]
        omega
  exact key 18 u (by omega)
theorem cand_itoa (n : Int) (h0 : -9223372036854775808 ≤ n) (h1 : n ≤ 9223372036854775807) : cand (itoa n) = n := by
  unfold itoa
  by_cases hn : n < 0
  · rw [if_pos hn]
    have hl := len_digits n.natAbs (by omega)
    have hm := mag_digits n.natAbs (by omega)
    unfold cand
    rw [List.take_of_length_le (by simp; omega)]
    have e : mag (45 :: decDigits n.natAbs) = n.natAbs := by
      unfold mag
      rw [List.foldl_cons, show add1 0 45 = 0 from rfl]
      exact hm
    rw [e]
    simp only [List.head?_cons, if_true, asInt]
    split <;> omega
  · rw [if_neg hn]
    have hl := len_digits n.toNat (by omega)
    have hm := mag_digits n.toNat (by omega)
    unfold cand
    rw [List.take_of_length_le (by omega)]
    have e : mag (decDigits n.toNat) = n.toNat := hm
    rw [e]
    obtain ⟨c, r, hc, h48, h57⟩ := head_digit n.toNat
    have hne : ¬ (decDigits n.toNat).head? = some 45 := by
      rw [hc]
      intro h
      simp only [List.head?_cons, Option.some.injEq] at h
      subst h
      exact absurd h48 (by decide)
    rw [if_neg hne]
    unfold asInt
    rw [if_pos (by omega)]
    omega

/-- WHAT Number ANSWERS, by the program's way and by the document's: one. -/
def num1 (l : List UInt8) : Int × Bool := match parseIntB 64 l with
  | .ok v => if itoa v = l then (v, true) else (0, false)
  | _ => (0, false)
def num2 (l : List UInt8) : Int × Bool := if itoa (cand l) = l then (cand l, true) else (0, false)
theorem num_same (l : List UInt8) : num1 l = num2 l := by
  unfold num1 num2
  by_cases h : itoa (cand l) = l
  · rw [if_pos h]
    have hb := cand_bounds l
    have hp := parse_itoa (cand l) hb.1 hb.2
    rw [h] at hp
    rw [hp]
    simp only [h, if_true]
  · rw [if_neg h]
    split
    · rename_i v hv
      have hb := parse_bounds hv
      by_cases h2 : itoa v = l
      · exfalso
        apply h
        rw [← h2, cand_itoa v hb.1 hb.2]
      · rw [if_neg h2]
    · rfl
theorem num1_itoa (n : Int) (h0 : -9223372036854775808 ≤ n) (h1 : n ≤ 9223372036854775807) : num1 (itoa n) = (n, true) := by
  unfold num1
  rw [parse_itoa n h0 h1]
  simp

end Go.Proofs.YtlabofafmcbfmaaGreatDoor.Dec
