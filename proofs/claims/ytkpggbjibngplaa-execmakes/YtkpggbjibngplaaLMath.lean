/-
  PROGRAMS AS LISTS OF INSTRUCTIONS: what they take and leave, depths, the longest way.
-/
import Derived.Test.YtkpggbjibngplaaRows
namespace Go.Proofs.Ytkpggbjibngplaa

/-- an instruction: its Op, its A -/
abbrev K := Int × Int
def In64 (x : Int) : Prop := -9223372036854775808 ≤ x ∧ x ≤ 9223372036854775807
def KIn (k : K) : Prop := In64 k.1 ∧ In64 k.2
def isOpB (op : Int) : Bool := decide (0 ≤ op) && decide (op < 37)

def tkL : List Int := [0, 0, 1, 1, 0, 1, 0, 0, 0, 1, 2, 2, 2, 2, 2, 2, 2, 2, 2, 2, 1, 1, 2, 2, 2, 2, 2, 2, 2, 2, 0, 1, 1, 0, 2, 1, 1]
def lvL : List Int := [0, 1, 0, 2, 1, 0, 1, 1, 1, 1, 1, 1, 1, 1, 1, 1, 1, 1, 1, 1, 1, 1, 1, 1, 1, 1, 1, 1, 1, 1, 0, 0, 0, 0, 0, 0, 0]
def takesN (op : Int) : Int := tkL.getD op.toNat 0
def leavesN (op : Int) : Int := lvL.getD op.toNat 0
theorem op_cases {op : Int} (h : isOpB op = true) : op = 0 ∨ op = 1 ∨ op = 2 ∨ op = 3 ∨ op = 4 ∨ op = 5 ∨ op = 6 ∨ op = 7 ∨ op = 8 ∨ op = 9 ∨ op = 10 ∨ op = 11 ∨ op = 12 ∨ op = 13 ∨ op = 14 ∨ op = 15 ∨ op = 16 ∨ op = 17 ∨ op = 18 ∨ op = 19 ∨ op = 20 ∨ op = 21 ∨ op = 22 ∨ op = 23 ∨ op = 24 ∨ op = 25 ∨ op = 26 ∨ op = 27 ∨ op = 28 ∨ op = 29 ∨ op = 30 ∨ op = 31 ∨ op = 32 ∨ op = 33 ∨ op = 34 ∨ op = 35 ∨ op = 36 := by
  simp only [isOpB, Bool.and_eq_true, decide_eq_true_eq] at h
  omega
theorem takes_bound {op : Int} (h : isOpB op = true) : 0 ≤ takesN op ∧ takesN op ≤ 2 := by
  rcases op_cases h with rfl | rfl | rfl | rfl | rfl | rfl | rfl | rfl | rfl | rfl | rfl | rfl | rfl | rfl | rfl | rfl | rfl | rfl | rfl | rfl | rfl | rfl | rfl | rfl | rfl | rfl | rfl | rfl | rfl | rfl | rfl | rfl | rfl | rfl | rfl | rfl | rfl <;> decide
theorem leaves_bound {op : Int} (h : isOpB op = true) : 0 ≤ leavesN op ∧ leavesN op ≤ 2 := by
  rcases op_cases h with rfl | rfl | rfl | rfl | rfl | rfl | rfl | rfl | rfl | rfl | rfl | rfl | rfl | rfl | rfl | rfl | rfl | rfl | rfl | rfl | rfl | rfl | rfl | rfl | rfl | rfl | rfl | rfl | rfl | rfl | rfl | rfl | rfl | rfl | rfl | rfl | rfl <;> decide

/-- the places to which an instruction goes -/
def nextN (i : Nat) (op a : Int) : List Nat :=
  if op = 0 ∨ op = 36 then [] else if op = 31 then [i + 1, a.toNat] else if op = 30 then [a.toNat] else [i + 1]

/-- a program's numbers -/
structure Nums where
  args : Int
  reads : Int
  writes : Int
  locals : Int
def limB (p : Nums) (n : Nat) : Bool :=
  decide (0 ≤ p.args) && decide (p.args ≤ 16) && (decide (0 ≤ p.reads) && decide (p.reads ≤ 16)) && (decide (0 ≤ p.writes) && decide (p.writes ≤ 16)) && (decide (0 ≤ p.locals) && decide (p.locals ≤ 16)) && decide (n ≤ 256)
theorem limB_iff (p : Nums) (n : Nat) : limB p n = true ↔ (0 ≤ p.args ∧ p.args ≤ 16) ∧ (0 ≤ p.reads ∧ p.reads ≤ 16) ∧ (0 ≤ p.writes ∧ p.writes ≤ 16) ∧ (0 ≤ p.locals ∧ p.locals ≤ 16) ∧ n ≤ 256 := by
  simp only [limB, Bool.and_eq_true, decide_eq_true_eq]; constructor <;> (intro h; simp_all)
/-- below what an instruction's A must lie; -1: any -/
def roomN (p : Nums) (op : Int) : Int :=
  if op = 1 ∨ op = 30 ∨ op = 31 then -1 else if op = 4 ∨ op = 5 then p.locals else if op = 6 then p.args else if op = 7 ∨ op = 8 then p.reads else if op = 32 ∨ op = 33 then p.writes else 1
def fitsB (p : Nums) (op a : Int) : Bool := decide (op = 1 ∨ op = 30 ∨ op = 31) || (decide (0 ≤ a) && decide (a < roomN p op))
def jumpB (op : Int) : Bool := decide (op = 30) || decide (op = 31)
/-- what is wrong with an instruction -/
def lookN (p : Nums) (n i : Nat) (k : K) : Int :=
  if isOpB k.1 = false then 31 else if jumpB k.1 = true ∧ (k.2 ≤ (i : Int) ∨ (n : Int) < k.2) then 33 else if fitsB p k.1 k.2 = false then 32 else 0
/-- the first that is not 0 -/
def firstE (f : Nat → Int) : Nat → Int
  | 0 => 0
  | k + 1 => if firstE f k ≠ 0 then firstE f k else f k
theorem firstE_zero {f : Nat → Int} {k : Nat} (h : firstE f k = 0) : ∀ i, i < k → f i = 0 := by
  induction k with
  | zero => intro i hi; omega
  | succ k ih =>
    intro i hi
    unfold firstE at h
    by_cases h0 : firstE f k ≠ 0
    · rw [if_pos h0] at h; exact absurd h h0
    · rw [if_neg h0] at h
      by_cases hik : i = k
      · rw [hik]; exact h
      · exact ih (by simpa using h0) i (by omega)
theorem firstE_all {f : Nat → Int} {k : Nat} (h : ∀ i, i < k → f i = 0) : firstE f k = 0 := by
  induction k with
  | zero => rfl
  | succ k ih =>
    unfold firstE
    rw [if_neg (by rw [ih (fun i hi => h i (by omega))]; simp)]
    exact h k (by omega)
theorem firstE_stop {f : Nat → Int} {k n : Nat} (h : firstE f k = 0) (hf : f k ≠ 0) (hn : k < n) : firstE f n = f k := by
  induction n with
  | zero => omega
  | succ n ih =>
    unfold firstE
    by_cases hk : k = n
    · subst hk; rw [if_neg (by rw [h]; simp)]
    · have e := ih (by omega)
      rw [if_pos (by rw [e]; exact hf), e]

/-- the j-th instruction -/
def cd (L : List K) (j : Nat) : K := L.getD j (0, 0)
def lookAll (p : Nums) (L : List K) (k : Nat) : Int := firstE (fun i => lookN p L.length i (cd L i)) k
/-- a depth is laid at the places to which one goes -/
def putD (d : List Int) (x : Int) : List Nat → Option (List Int)
  | [] => some d
  | t :: r => if d.getD t 0 ≠ -1 ∧ d.getD t 0 ≠ x then none else putD (d.set t x) x r
def stepD (k : K) (i : Nat) (d : List Int) : Option (List Int) :=
  if d.getD i 0 = -1 then some d
  else if d.getD i 0 - takesN k.1 < 0 ∨ 32 < d.getD i 0 - takesN k.1 + leavesN k.1 then none
  else putD d (d.getD i 0 - takesN k.1 + leavesN k.1) (nextN i k.1 k.2)
def startD (n : Nat) : List Int := 0 :: List.replicate n (-1)
def runD (L : List K) : Nat → Option (List Int)
  | 0 => some (startD L.length)
  | i + 1 => (runD L i).bind (stepD (cd L i) i)
/-- Depths: the list, and the error -/
def depthsN (p : Nums) (L : List K) : List Int × Int :=
  if limB p L.length = false then ([], 30)
  else if lookAll p L L.length ≠ 0 then ([], lookAll p L L.length)
  else match runD L L.length with
    | none => ([], 34)
    | some d => (d, 0)
def verifyN (p : Nums) (L : List K) : Int := (depthsN p L).2
/-- the longest ways from the places on, the last j places having been gone over -/
def mostV (m : List Int) (k : K) (i : Nat) : Int := (nextN i k.1 k.2).foldl (fun a t => max a (m.getD t 0)) 0 + 1
def mostN (L : List K) : Nat → List Int
  | 0 => List.replicate (L.length + 1) 0
  | j + 1 => (mostN L j).set (L.length - 1 - j) (mostV (mostN L j) (cd L (L.length - 1 - j)) (L.length - 1 - j))
def longestN (p : Nums) (L : List K) : Int × Int := if verifyN p L ≠ 0 then (0, verifyN p L) else ((mostN L L.length).getD 0 0, 0)

def NIn (p : Nums) : Prop := In64 p.args ∧ In64 p.reads ∧ In64 p.writes ∧ In64 p.locals
end Go.Proofs.Ytkpggbjibngplaa
