/-
  NAMES: isLetter, isDigit, isName, the document's Name.
-/
import Derived.Test.YtciogmenoighoaaLList
namespace Go.Proofs.Ytciogmenoighoaa
open Go.RowKit Go.Sort

def letB (c : Int) : Bool := (decide (97 ≤ c) && decide (c ≤ 122)) || (decide (65 ≤ c) && decide (c ≤ 90))
def digB (c : Int) : Bool := decide (48 ≤ c) && decide (c ≤ 57)
/-- may a byte stand at a place of a name? -/
def chB (i : Nat) (c : Int) : Bool := letB c || (decide (i ≠ 0) && (digB c || decide (c = 95)))
def chs (s : ByteArray) (i : Nat) : Int := ((s.data.toList.getD i 0).toNat : Int)
def goodN (s : ByteArray) : Nat → Bool
  | 0 => true
  | k + 1 => goodN s k && chB k (chs s k)
def nameB (s : ByteArray) : Bool := decide (0 < s.size) && decide (s.size ≤ 31) && goodN s s.size
theorem chs_at (s : ByteArray) (k : Nat) (h : k < s.size) : (s[k].toNat : Int) = chs s k := by
  have hl : k < s.data.toList.length := by rw [Array.length_toList]; exact h
  unfold chs
  rw [List.getD_eq_getElem?_getD, List.getElem?_eq_getElem hl]; rfl
theorem goodN_false {s : ByteArray} {k n : Nat} (h : chB k (chs s k) = false) (hk : k < n) : goodN s n = false := by
  induction n with
  | zero => omega
  | succ n ih =>
    unfold goodN
    by_cases e : k = n
    · subst e; rw [h]; simp
    · rw [ih (by omega)]; rfl
theorem chs_byte (s : ByteArray) (k : Nat) : 0 ≤ chs s k ∧ chs s k ≤ 255 := by
  unfold chs; have := (s.data.toList.getD k 0).toNat_lt; omega
theorem bool_cases (a b : Bool) : a = true ∨ (a = false ∧ b = true) ∨ (a = false ∧ b = false) := by cases a <;> cases b <;> simp

end Go.Proofs.Ytciogmenoighoaa
