/-
  WHAT Parse ANSWERS, AS A FUNCTION OF THE TEXT's BYTES.
-/
import Derived.Test.YtnjgaibcpcpmcaaDoorDec
import Derived.Test.YtnjgaibcpcpmcaaDoorKMath
namespace Go.Proofs.YtnjgaibcpcpmcaaDoor

/-- a digit -/
def isD (c : UInt8) : Bool := decide (48 ≤ c.toNat) && decide (c.toNat ≤ 57)
/-- how many digits follow one another from a place on -/
def run (l : List UInt8) (f : Nat) : Nat := ((l.drop f).takeWhile isD).length
theorem takeWhile_len_lt {α : Type} (p : α → Bool) (l : List α) (k : Nat) (h : k ≤ (l.takeWhile p).length) : k < (l.takeWhile p).length ↔ ∃ c, l[k]? = some c ∧ p c = true := by
  induction l generalizing k with
  | nil => simp at h ⊢
  | cons a l ih =>
    by_cases ha : p a = true
    · rw [List.takeWhile_cons_of_pos ha] at h ⊢
      cases k with
      | zero => simp [ha]
      | succ k =>
        simp only [List.length_cons, Nat.add_lt_add_iff_right, List.getElem?_cons_succ]
        exact ih k (by simp at h; omega)
    · rw [List.takeWhile_cons_of_neg ha] at h ⊢
      simp at h
      subst h
      simp [ha]
theorem run_lt (l : List UInt8) (f k : Nat) (h : k ≤ run l f) : k < run l f ↔ ∃ c, l[f + k]? = some c ∧ isD c = true := by
  have := takeWhile_len_lt isD (l.drop f) k h
  rwa [List.getElem?_drop] at this
theorem run_le (l : List UInt8) (f : Nat) : run l f ≤ l.length - f := by
  have h := (List.takeWhile_sublist isD (l := l.drop f)).length_le
  rw [List.length_drop] at h
  exact h
/-- the digits of a number: the place behind them, or that at which they can't go on -/
def digs (l : List UInt8) (f : Nat) : Nat × Int :=
  if run l f = 0 then (f, 40) else if l[f]? = some 48 ∧ 1 < run l f then (f + 1, 40) else (f + run l f, 0)
def tab (l : List UInt8) : Int × Nat × Int :=
  if (digs l 0).2 = 0 then
    if (Dec.num1 (l.take (digs l 0).1)).2 = true ∧ (Dec.num1 (l.take (digs l 0).1)).1 ≤ 65535 then ((Dec.num1 (l.take (digs l 0).1)).1, (digs l 0).1, 0) else (0, 0, 41)
  else (0, (digs l 0).1, (digs l 0).2)
def rest (l : List UInt8) (f g : Nat) : Int × Nat × Int :=
  if (digs l g).2 = 0 then
    if (Dec.num1 ((l.take (digs l g).1).drop f)).2 = true then ((Dec.num1 ((l.take (digs l g).1).drop f)).1, (digs l g).1, 0) else (0, f, 41)
  else (0, (digs l g).1, (digs l g).2)
def rowR (l : List UInt8) (f : Nat) : Int × Nat × Int :=
  if l[f]? = some 45 then if l[f + 1]? = some 48 then (0, f + 1, 40) else rest l f (f + 1) else rest l f f
def parse (l : List UInt8) : K × Nat × Int :=
  if (tab l).2.2 = 0 then
    if l[(tab l).2.1]? = some 58 then
      if (rowR l ((tab l).2.1 + 1)).2.2 = 0 then
        if (rowR l ((tab l).2.1 + 1)).2.1 < l.length then ((0, 0), (rowR l ((tab l).2.1 + 1)).2.1, 40) else (((tab l).1, (rowR l ((tab l).2.1 + 1)).1), 0, 0)
      else ((0, 0), (rowR l ((tab l).2.1 + 1)).2.1, (rowR l ((tab l).2.1 + 1)).2.2)
    else ((0, 0), (tab l).2.1, 40)
  else ((0, 0), (tab l).2.1, (tab l).2.2)

theorem digs_le (l : List UInt8) (f : Nat) (hf : f ≤ l.length) : (digs l f).1 ≤ l.length := by
  have h := run_le l f
  unfold digs
  split
  · exact hf
  · split <;> omega
theorem digs_ge (l : List UInt8) (f : Nat) : f ≤ (digs l f).1 := by
  unfold digs
  split
  · exact Nat.le_refl _
  · split <;> omega

end Go.Proofs.YtnjgaibcpcpmcaaDoor
