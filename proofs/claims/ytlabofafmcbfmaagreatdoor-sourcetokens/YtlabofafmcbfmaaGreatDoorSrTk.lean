/-
  SOURCE: THE TOKEN THAT A TEXT BEGINS WITH, AND ALL TOKENS, AS PLAIN FUNCTIONS.
-/
import Derived.Test.YtlabofafmcbfmaaGreatDoorSrPre
import Derived.Test.YtlabofafmcbfmaaGreatDoorSrWord
import Derived.Test.YtlabofafmcbfmaaGreatDoorDec
namespace Go.Proofs.YtlabofafmcbfmaaGreatDoor
open Go.RowKit Go.Sort Go.Shelf

def pairL : List (List UInt8) := [[61, 61], [33, 61], [60, 61], [62, 61], [60, 60], [62, 62], [38, 38], [124, 124]]
def shortL : List UInt8 := [61, 60, 62, 43, 45, 42, 47, 37, 38, 124, 94, 33, 63, 58, 59, 44, 40, 41, 123, 125, 91, 93]
def shN (l : List UInt8) : Nat := match l with
  | [] => 0
  | c :: _ => if shortL.contains c then 1 else 0
/-- how long the sign is that a text begins with; 0: none -/
def sgN (l : List UInt8) : Nat := if pairL.any (fun p => p.isPrefixOf l) then 2 else shN l
/-- a digit of a number that is written by its bits -/
def hexD (c : UInt8) : Option Nat := if 48 ≤ c.toNat ∧ c.toNat ≤ 57 then some (c.toNat - 48) else if 97 ≤ c.toNat ∧ c.toNat ≤ 102 then some (c.toNat - 87) else none
def bitsL : List UInt8 → Nat → Option Nat
  | [], a => some a
  | c :: r, a => match hexD c with
    | none => none
    | some d => bitsL r (16 * a + d)
def i64N (u : Nat) : Int := if u < 9223372036854775808 then (u : Int) else (u : Int) - 18446744073709551616
/-- what a number's text is -/
def numO (t : List UInt8) : Int × Bool :=
  if [48, 120].isPrefixOf t then (if t.length = 2 ∨ 18 < t.length then (0, false) else match bitsL (t.drop 2) 0 with
    | none => (0, false)
    | some u => (i64N u, true))
  else Dec.num1 t
/-- a token or the number of an error -/
inductive TK where
  | ok (k : Nat) (t : List UInt8) (n : Int)
  | er (e : Nat)
def c0 (l : List UInt8) : Nat := match l with
  | [] => 0
  | c :: _ => c.toNat
/-- the token that a text begins with -/
def tokA (l : List UInt8) : TK :=
  if leC (c0 l) then .ok (if isOwn (l.take (frB woC l)) then 2 else 1) (l.take (frB woC l)) 0
  else if diC (c0 l) then (if (numO (l.take (frB woC l))).2 then .ok 3 (l.take (frB woC l)) (numO (l.take (frB woC l))).1 else .er 41)
  else if [47, 42].isPrefixOf l then .er 180
  else if sgN l = 0 then .er 180
  else .ok 4 (l.take (sgN l)) 0
abbrev Tok := Nat × List UInt8 × Int × Nat × Nat
abbrev spO (L : List UInt8) (k : Nat) : Nat × Nat := spL (1, 1) (L.take k)
/-- all tokens of a text from a place on, or the place and the number of what is wrong -/
inductive TR where
  | ok (ts : List Tok)
  | er (p : Nat × Nat) (e : Nat)
def tkR (L : List UInt8) : Nat → Nat → List Tok → TR
  | 0, _, acc => .ok acc
  | f + 1, k, acc =>
    if (L.drop (k + KL (L.drop k))) = [] then .ok acc
    else match tokA (L.drop (k + KL (L.drop k))) with
      | .er e => .er (spO L (k + KL (L.drop k))) e
      | .ok kd t n => tkR L f (k + KL (L.drop k) + t.length) (acc ++ [(kd, t, n, spO L (k + KL (L.drop k)))])
def tksA (L : List UInt8) : TR := tkR L (L.length + 1) 0 []
theorem frB_pos {f : Nat → Bool} {c : UInt8} {r : List UInt8} (h : f c.toNat = true) : 0 < frB f (c :: r) := by simp [frB, h]
theorem sgN_le (l : List UInt8) : sgN l ≤ l.length ∧ sgN l ≤ 2 := by
  unfold sgN
  split
  · rename_i h
    rw [List.any_eq_true] at h
    obtain ⟨p, hp, h2⟩ := h
    have h3 := (List.isPrefixOf_iff_prefix.1 h2).length_le
    have h4 : p.length = 2 := by
      have : ∀ p ∈ pairL, p.length = 2 := by decide
      exact this p hp
    omega
  · unfold shN
    cases l with
    | nil => simp
    | cons c r => simp only [List.length_cons]; split <;> omega
theorem woC_of_le {c : Nat} (h : leC c = true) : woC c = true := by simp [woC, h]
theorem woC_of_di {c : Nat} (h : diC c = true) : woC c = true := by simp [woC, h]
/-- a token has a sign at least, and stands at the front -/
theorem tokA_pos {l : List UInt8} {k : Nat} {t : List UInt8} {n : Int} (hl : l ≠ []) (h : tokA l = .ok k t n) : 0 < t.length ∧ t.length ≤ l.length ∧ t = l.take t.length := by
  obtain ⟨c, r, rfl⟩ := List.exists_cons_of_ne_nil hl
  unfold tokA at h
  have hle := frB_le woC (c :: r)
  have e0 : c0 (c :: r) = c.toNat := rfl
  rw [e0] at h
  by_cases h1 : leC c.toNat = true
  · rw [if_pos h1] at h
    have hp := frB_pos (r := r) (woC_of_le h1)
    simp only [TK.ok.injEq] at h
    obtain ⟨_, h2, _⟩ := h
    have e : t.length = frB woC (c :: r) := by rw [← h2, List.length_take]; omega
    exact ⟨by omega, by omega, by rw [e]; exact h2.symm⟩
  · rw [if_neg h1] at h
    by_cases h2 : diC c.toNat = true
    · rw [if_pos h2] at h
      have hp := frB_pos (r := r) (woC_of_di h2)
      split at h
      · simp only [TK.ok.injEq] at h
        obtain ⟨_, h2, _⟩ := h
        have e : t.length = frB woC (c :: r) := by rw [← h2, List.length_take]; omega
        exact ⟨by omega, by omega, by rw [e]; exact h2.symm⟩
      · cases h
    · rw [if_neg h2] at h
      split at h
      · cases h
      · split at h
        · cases h
        · rename_i h3
          have h4 := sgN_le (c :: r)
          simp only [TK.ok.injEq] at h
          obtain ⟨_, h2, _⟩ := h
          have e : t.length = sgN (c :: r) := by rw [← h2, List.length_take]; omega
          exact ⟨by omega, by omega, by rw [e]; exact h2.symm⟩
theorem tokA_er {l : List UInt8} {x : Nat} (h : tokA l = .er x) : x ≠ 0 := by
  unfold tokA at h
  repeat' split at h
  all_goals first | cases h; decide | cases h
theorem bitsL_lt : ∀ (l : List UInt8) (a u : Nat), bitsL l a = some u → u < 16 ^ l.length * (a + 1)
  | [], a, u, h => by simp only [bitsL, Option.some.injEq] at h; subst h; simp
  | c :: r, a, u, h => by
    unfold bitsL at h
    cases hd : hexD c with
    | none => rw [hd] at h; cases h
    | some d =>
      rw [hd] at h
      have h1 := bitsL_lt r (16 * a + d) u h
      have h2 : d < 16 := by
        unfold hexD at hd
        split at hd
        · simp only [Option.some.injEq] at hd; omega
        · split at hd
          · simp only [Option.some.injEq] at hd; omega
          · cases hd
      rw [List.length_cons, Nat.pow_succ, Nat.mul_assoc]
      refine Nat.lt_of_lt_of_le h1 (Nat.mul_le_mul_left _ (by omega))
theorem bitsL_app : ∀ (l m : List UInt8) (a : Nat), bitsL (l ++ m) a = (bitsL l a).bind (bitsL m)
  | [], m, a => rfl
  | c :: r, m, a => by
    show bitsL (c :: (r ++ m)) a = _
    unfold bitsL
    cases hexD c with
    | none => rfl
    | some d => exact bitsL_app r m _
/-- a number that is written by its bits is no decimal one -/
theorem dec_no_x {t : List UInt8} (h : [48, 120].isPrefixOf t = true) : Dec.num1 t = (0, false) := by
  rw [Dec.num_same]
  unfold Dec.num2
  rw [if_neg]
  intro e
  obtain ⟨r, hr⟩ := List.isPrefixOf_iff_prefix.1 h
  have ht : t = 48 :: 120 :: r := by rw [← hr]; rfl
  have h120 : (120 : UInt8) ∈ Lib.itoa (Dec.cand t) := by rw [e, ht]; simp
  unfold Lib.itoa at h120
  split at h120
  · rw [List.mem_cons] at h120
    rcases h120 with h1 | h1
    · exact absurd h1 (by decide)
    · exact absurd (Dec.decDigits_digit _ _ h1).2 (by decide)
  · exact absurd (Dec.decDigits_digit _ _ h120).2 (by decide)
end Go.Proofs.YtlabofafmcbfmaaGreatDoor
