import Derived.Lib.OthersKept
import Derived.Laws.RangeAny
import Derived.Test.YtiiplikmoodfnaaGreatDoorRows
import Derived.WalkKit
import Derived.WalkLawsBesides
import Derived.ProofKit
import Derived.OpenShut
import Derived.BigQuiet
import Derived.Deep.QuietTactic
import Derived.Laws.BitsAllLaws
import Derived.Laws.StructEq
import Derived.Shelf.SlSortCmp.QuietGrown
import Derived.Shelf.SlicesE.Kit
import Derived.Laws.AppendOwnNone
import Derived.Maps.AppendAt
/-
  A TEXT's LINES AND WORDS, BYTE BY BYTE.
-/
namespace Go.Proofs.YtiiplikmoodfnaaGreatDoor
open Go.RowKit

/-- a word: its bytes and its column -/
abbrev Wd := List UInt8 × Nat
/-- the split's state: lines, the words of the line that is read, its beginning, the word that has begun, is it a comment? -/
structure Sc where
  lines : List (List Wd)
  words : List Wd
  frm : Nat
  wf : Option Nat
  com : Bool
def endB (c : Nat) : Bool := decide (c = 32) || decide (c = 9) || decide (c = 13) || decide (c = 10) || decide (c = 35)
def pieceL (l : List UInt8) (f t : Nat) : List UInt8 := (l.take t).drop f
/-- a word ends -/
def scEnd (l : List UInt8) (x : Sc) (k c : Nat) : Sc :=
  match x.wf with
  | none => x
  | some f => if endB c then { x with words := x.words ++ [(pieceL l f k, f - x.frm + 1)], wf := none } else x
def scStep (l : List UInt8) (x : Sc) (k c : Nat) : Sc :=
  if c = 10 then { scEnd l x k c with lines := (scEnd l x k c).lines ++ [(scEnd l x k c).words], words := [], frm := k + 1, com := false }
  else if c = 35 then { scEnd l x k c with com := true }
  else if x.com = false ∧ endB c = false ∧ x.wf = none then { x with wf := some k }
  else scEnd l x k c
def byteAt (l : List UInt8) (k : Nat) : Nat := ((l ++ [10]).getD k 0).toNat
def scRun (l : List UInt8) : Nat → Sc
  | 0 => ⟨[], [], 0, none, false⟩
  | k + 1 => scStep l (scRun l k) k (byteAt l k)
def splitN (l : List UInt8) : List (List Wd) := (scRun l (l.length + 1)).lines

theorem endB_hi {c : Nat} (h : 128 ≤ c) : endB c = false := by
  unfold endB
  simp only [Bool.or_eq_false_iff, decide_eq_false_iff_not]
  omega
theorem scEnd_hi (l : List UInt8) (x : Sc) (k : Nat) {c : Nat} (h : 128 ≤ c) : scEnd l x k c = x := by
  unfold scEnd
  rw [endB_hi h]
  cases x.wf <;> rfl
theorem scStep_hi (l : List UInt8) (x : Sc) (k : Nat) {c : Nat} (h : 128 ≤ c) : scStep l x k c = if x.com = false ∧ x.wf = none then { x with wf := some k } else x := by
  unfold scStep
  rw [if_neg (by omega), if_neg (by omega), scEnd_hi l x k h, endB_hi h]
  simp
theorem scStep_like (l : List UInt8) (x : Sc) (k : Nat) {c c' : Nat} (h : 128 ≤ c) (h' : 128 ≤ c') : scStep l x k c = scStep l x k c' := by rw [scStep_hi l x k h, scStep_hi l x k h']
theorem scStep_rest (l : List UInt8) (x : Sc) (k k' : Nat) {c c' : Nat} (h : 128 ≤ c) (h' : 128 ≤ c') : scStep l (scStep l x k c) k' c' = scStep l x k c := by
  rw [scStep_hi l x k h, scStep_hi l _ k' h']
  by_cases h1 : x.com = false ∧ x.wf = none
  · rw [if_pos h1, if_neg (by simp)]
  · rw [if_neg h1, if_neg h1]
/-- the bytes of one sign, at once -/
theorem scRun_sign (l : List UInt8) (k : Nat) : ∀ j, (∀ i, i < j + 1 → 128 ≤ byteAt l (k + i)) → scRun l (k + (j + 1)) = scRun l (k + 1)
  | 0, _ => rfl
  | j + 1, h => by
    have ih := scRun_sign l k j (fun i hi => h i (by omega))
    show scStep l (scRun l (k + (j + 1))) (k + (j + 1)) (byteAt l (k + (j + 1))) = _
    rw [ih]
    exact scStep_rest l (scRun l k) k (k + (j + 1)) (h 0 (by omega)) (h (j + 1) (by omega))
/-- where a word stands -/
def ScOK (l : List UInt8) (k : Nat) (x : Sc) : Prop := x.frm ≤ k ∧ ∀ f, x.wf = some f → x.frm ≤ f ∧ f < k ∧ f < l.length
theorem scEnd_frm (l : List UInt8) (x : Sc) (k c : Nat) : (scEnd l x k c).frm = x.frm ∧ (scEnd l x k c).com = x.com ∧ (scEnd l x k c).lines = x.lines := by
  unfold scEnd
  cases x.wf with
  | none => exact ⟨rfl, rfl, rfl⟩
  | some f =>
    simp only
    split <;> exact ⟨rfl, rfl, rfl⟩
theorem scEnd_wf (l : List UInt8) (x : Sc) (k c f : Nat) (h : (scEnd l x k c).wf = some f) : x.wf = some f := by
  revert h
  unfold scEnd
  cases hx : x.wf with
  | none => simp [hx]
  | some g =>
    simp only
    split
    · intro h; cases h
    · intro h; rw [hx] at h; exact h
theorem byteAt_last (l : List UInt8) : byteAt l l.length = 10 := by simp [byteAt]
theorem byteAt_in (l : List UInt8) {k : Nat} (h : k < l.length) : byteAt l k = (l.getD k 0).toNat := by
  simp [byteAt, List.getD_eq_getElem?_getD, List.getElem?_append_left h]
theorem scRun_ok (l : List UInt8) : ∀ k, k ≤ l.length + 1 → ScOK l k (scRun l k)
  | 0, _ => ⟨Nat.le_refl _, fun f h => by cases h⟩
  | k + 1, hk => by
    obtain ⟨h1, h2⟩ := scRun_ok l k (by omega)
    show ScOK l (k + 1) (scStep l (scRun l k) k (byteAt l k))
    generalize hx : scRun l k = x at *
    obtain ⟨e1, _, _⟩ := scEnd_frm l x k (byteAt l k)
    have e3 : ∀ f, (scEnd l x k (byteAt l k)).wf = some f → x.frm ≤ f ∧ f < k + 1 ∧ f < l.length := fun f hf => by
      have := h2 f (scEnd_wf l x k _ f hf); omega
    unfold scStep
    split
    · next hc =>
      refine ⟨Nat.le_refl _, fun f hf => ?_⟩
      exfalso
      have hf' : (scEnd l x k (byteAt l k)).wf = some f := hf
      revert hf'
      unfold scEnd
      cases hw : x.wf with
      | none => simp [hw]
      | some g => simp [hc, endB]
    · split
      · exact ⟨by show (scEnd l x k (byteAt l k)).frm ≤ _; rw [e1]; omega, fun f hf => by show (scEnd l x k (byteAt l k)).frm ≤ _ ∧ _; rw [e1]; exact e3 f hf⟩
      · split
        · next h10 _ hc =>
          refine ⟨by show x.frm ≤ _; omega, fun f hf => ?_⟩
          cases hf
          refine ⟨h1, by omega, ?_⟩
          by_cases hl : k < l.length
          · exact hl
          · exact absurd (by rw [show k = l.length by omega]; exact byteAt_last l) h10
        · exact ⟨by rw [e1]; omega, fun f hf => by rw [e1]; exact e3 f hf⟩
end Go.Proofs.YtiiplikmoodfnaaGreatDoor
/-
  A SIGN's BYTES.
-/
namespace Go.Proofs.YtiiplikmoodfnaaGreatDoor
open Go.RowKit

theorem dec_bytes (s : ByteArray) (pos : Nat) (h : pos < s.size) (ha : 128 ≤ (s.get! pos).toNat) : pos + (Utf8.decode s pos).2 ≤ s.size ∧ ∀ i, i < (Utf8.decode s pos).2 → 128 ≤ (s.get! (pos + i)).toNat := by
  unfold Utf8.decode
  simp only [Nat.add_zero]
  rw [if_neg (by omega)]
  have one : ∀ i, i < 1 → 128 ≤ (s.get! (pos + i)).toNat := fun i hi => by rw [show i = 0 by omega]; exact ha
  split
  · next h1 =>
    simp only [Bool.and_eq_true, beq_iff_eq, decide_eq_true_eq] at h1
    split
    · refine ⟨by show pos + 2 ≤ _; omega, fun i hi => ?_⟩
      have hi' : i < 2 := hi
      rcases (show i = 0 ∨ i = 1 by omega) with rfl | rfl
      · exact ha
      · omega
    · exact ⟨by show pos + 1 ≤ _; omega, one⟩
  · split
    · next h1 =>
      simp only [Bool.and_eq_true, beq_iff_eq, decide_eq_true_eq] at h1
      split
      · refine ⟨by show pos + 3 ≤ _; omega, fun i hi => ?_⟩
        have hi' : i < 3 := hi
        rcases (show i = 0 ∨ i = 1 ∨ i = 2 by omega) with rfl | rfl | rfl
        · exact ha
        · omega
        · omega
      · exact ⟨by show pos + 1 ≤ _; omega, one⟩
    · split
      · next h1 =>
        simp only [Bool.and_eq_true, beq_iff_eq, decide_eq_true_eq] at h1
        split
        · refine ⟨by show pos + 4 ≤ _; omega, fun i hi => ?_⟩
          have hi' : i < 4 := hi
          rcases (show i = 0 ∨ i = 1 ∨ i = 2 ∨ i = 3 by omega) with rfl | rfl | rfl | rfl
          · exact ha
          · omega
          · omega
          · omega
        · exact ⟨by show pos + 1 ≤ _; omega, one⟩
      · exact ⟨by show pos + 1 ≤ _; omega, one⟩
/-- what a text's sign is, for the split -/
theorem sign_at (l : List UInt8) (s : ByteArray) (hs : s.data.toList = l ++ [10]) (pos : Nat) (h : pos < s.size) :
    (byteAt l pos < 128 ∧ Utf8.decode s pos = (byteAt l pos, 1)) ∨ (128 ≤ byteAt l pos ∧ 128 ≤ (Utf8.decode s pos).1 ∧ 1 ≤ (Utf8.decode s pos).2 ∧ pos + (Utf8.decode s pos).2 ≤ s.size ∧ scRun l (pos + (Utf8.decode s pos).2) = scStep l (scRun l pos) pos (Utf8.decode s pos).1) := by
  have hlen : s.size = (l ++ [10]).length := by rw [← hs]; exact Array.length_toList.symm
  have hb : ∀ i, i < s.size → (s.get! i).toNat = byteAt l i := fun i hi => by
    have : s.data.toList[i]? = some (s.get! i) := by
      have hi' : i < s.data.size := hi
      rw [Array.getElem?_toList, Array.getElem?_eq_getElem hi']
      congr 1
      show _ = s.data[i]!
      rw [getElem!_pos s.data i hi']
    unfold byteAt
    rw [← hs, List.getD_eq_getElem?_getD, this]; rfl
  have hg : (s[pos]'h) = s.get! pos := by
    show s.data[pos] = s.data[pos]!
    rw [getElem!_pos s.data pos h]
  by_cases hc : byteAt l pos < 128
  · left
    refine ⟨hc, ?_⟩
    have := decode_ascii s pos h (by rw [hg, hb pos h]; exact hc)
    rw [this, hg, hb pos h]
  · right
    have hc' : 128 ≤ byteAt l pos := by omega
    obtain ⟨d1, d2⟩ := decode_high s pos h (by rw [hg, hb pos h]; exact hc')
    obtain ⟨e1, e2⟩ := dec_bytes s pos h (by rw [hb pos h]; exact hc')
    refine ⟨hc', d1, d2, e1, ?_⟩
    obtain ⟨j, hj⟩ : ∃ j, (Utf8.decode s pos).2 = j + 1 := ⟨(Utf8.decode s pos).2 - 1, by omega⟩
    rw [hj]
    rw [scRun_sign l pos j (fun i hi => by have := e2 i (by omega); rw [hb (pos + i) (by omega)] at this; exact this)]
    exact scStep_like l _ pos hc' d1
end Go.Proofs.YtiiplikmoodfnaaGreatDoor
/-
  PROGRAMS AS LISTS OF INSTRUCTIONS: what they take and leave, depths, the longest way.
-/
namespace Go.Proofs.YtiiplikmoodfnaaGreatDoor

/-- an instruction: its Op, its A -/
abbrev K := Int × Int
def In64 (x : Int) : Prop := -9223372036854775808 ≤ x ∧ x ≤ 9223372036854775807
def KIn (k : K) : Prop := In64 k.1 ∧ In64 k.2
def isOpB (op : Int) : Bool := decide (0 ≤ op) && decide (op < 37)

def tkL : List Int := [0, 0, 1, 1, 0, 1, 0, 0, 0, 1, 2, 2, 2, 2, 2, 2, 2, 2, 2, 2, 1, 1, 2, 2, 2, 2, 2, 2, 2, 2, 0, 1, 1, 0, 2, 1, 1]
def lvL : List Int := [0, 1, 0, 2, 1, 0, 1, 1, 1, 1, 1, 1, 1, 1, 1, 1, 1, 1, 1, 1, 1, 1, 1, 1, 1, 1, 1, 1, 1, 1, 0, 0, 0, 0, 0, 0, 0]
def takesN (op : Int) : Int := tkL.getD op.toNat 0
def leavesN (op : Int) : Int := lvL.getD op.toNat 0
theorem op_cases {op : Int} (h : isOpB op = true) : op = 0 ∨ op = 1 ∨ op = 2 ∨ op = 3 ∨ op = 4 ∨ op = 5 ∨ op = 6 ∨ op = 7 ∨ op = 8 ∨ op = 9 ∨ op = 10 ∨ op = 11 ∨ op = 12 ∨ op = 13 ∨ op = 14 ∨ op = 15 ∨ op = 16 ∨ op = 17 ∨ op = 18 ∨ op = 19 ∨ op = 20 ∨ op = 21 ∨ op = 22 ∨ op = 23 ∨ op = 24 ∨ op = 25 ∨ op = 26 ∨ op = 27 ∨ op = 28 ∨ op = 29 ∨ op = 30 ∨ op = 31 ∨ op = 32 ∨ op = 33 ∨ op = 34 ∨ op = 35 ∨ op = 36 := by
  simp only [isOpB, Bool.and_eq_true, decide_eq_true_eq] at h
  omega
theorem takes_bound {op : Int} (h : isOpB op = true) : 0 ≤ takesN op ∧ takesN op ≤ 2 := by
  rcases op_cases h with rfl | rfl | rfl | rfl | rfl | rfl | rfl | rfl | rfl | rfl | rfl | rfl | rfl | rfl | rfl | rfl | rfl | rfl | rfl | rfl | rfl | rfl | rfl | rfl | rfl | rfl | rfl | rfl | rfl | rfl | rfl | rfl | rfl | rfl | rfl | rfl | rfl <;> decide
theorem leaves_bound {op : Int} (h : isOpB op = true) : 0 ≤ leavesN op ∧ leavesN op ≤ 2 := by
  rcases op_cases h with rfl | rfl | rfl | rfl | rfl | rfl | rfl | rfl | rfl | rfl | rfl | rfl | rfl | rfl | rfl | rfl | rfl | rfl | rfl | rfl | rfl | rfl | rfl | rfl | rfl | rfl | rfl | rfl | rfl | rfl | rfl | rfl | rfl | rfl | rfl | rfl | rfl <;> decide

/-- the places to which an instruction goes -/
def nextN (i : Nat) (op a : Int) : List Nat :=
  if op = 0 ∨ op = 36 then [] else if op = 31 then [i + 1, a.toNat] else if op = 30 then [a.toNat] else [i + 1]

/-- a program's numbers -/
structure Nums where
  args : Int
  reads : Int
  writes : Int
  locals : Int
def limB (p : Nums) (n : Nat) : Bool :=
  decide (0 ≤ p.args) && decide (p.args ≤ 16) && (decide (0 ≤ p.reads) && decide (p.reads ≤ 16)) && (decide (0 ≤ p.writes) && decide (p.writes ≤ 16)) && (decide (0 ≤ p.locals) && decide (p.locals ≤ 16)) && decide (n ≤ 256)
theorem limB_iff (p : Nums) (n : Nat) : limB p n = true ↔ (0 ≤ p.args ∧ p.args ≤ 16) ∧ (0 ≤ p.reads ∧ p.reads ≤ 16) ∧ (0 ≤ p.writes ∧ p.writes ≤ 16) ∧ (0 ≤ p.locals ∧ p.locals ≤ 16) ∧ n ≤ 256 := by
  simp only [limB, Bool.and_eq_true, decide_eq_true_eq]; constructor <;> (intro h; simp_all)
/-- below what an instruction's A must lie; -1: any -/
def roomN (p : Nums) (op : Int) : Int :=
  if op = 1 ∨ op = 30 ∨ op = 31 then -1 else if op = 4 ∨ op = 5 then p.locals else if op = 6 then p.args else if op = 7 ∨ op = 8 then p.reads else if op = 32 ∨ op = 33 then p.writes else 1
def fitsB (p : Nums) (op a : Int) : Bool := decide (op = 1 ∨ op = 30 ∨ op = 31) || (decide (0 ≤ a) && decide (a < roomN p op))
def jumpB (op : Int) : Bool := decide (op = 30) || decide (op = 31)
/-- what is wrong with an instruction -/
def lookN (p : Nums) (n i : Nat) (k : K) : Int :=
  if isOpB k.1 = false then 31 else if jumpB k.1 = true ∧ (k.2 ≤ (i : Int) ∨ (n : Int) < k.2) then 33 else if fitsB p k.1 k.2 = false then 32 else 0
/-- the first that is not 0 -/
def firstE (f : Nat → Int) : Nat → Int
  | 0 => 0
  | k + 1 => if firstE f k ≠ 0 then firstE f k else f k
theorem firstE_zero {f : Nat → Int} {k : Nat} (h : firstE f k = 0) : ∀ i, i < k → f i = 0 := by
  induction k with
  | zero => intro i hi; omega
  | succ k ih =>
    intro i hi
    unfold firstE at h
    by_cases h0 : firstE f k ≠ 0
    · rw [if_pos h0] at h; exact absurd h h0
    · rw [if_neg h0] at h
      by_cases hik : i = k
      · rw [hik]; exact h
      · exact ih (by simpa using h0) i (by omega)
theorem firstE_all {f : Nat → Int} {k : Nat} (h : ∀ i, i < k → f i = 0) : firstE f k = 0 := by
  induction k with
  | zero => rfl
  | succ k ih =>
    unfold firstE
    rw [if_neg (by rw [ih (fun i hi => h i (by omega))]; simp)]
    exact h k (by omega)
theorem firstE_stop {f : Nat → Int} {k n : Nat} (h : firstE f k = 0) (hf : f k ≠ 0) (hn : k < n) : firstE f n = f k := by
  induction n with
  | zero => omega
  | succ n ih =>
    unfold firstE
    by_cases hk : k = n
    · subst hk; rw [if_neg (by rw [h]; simp)]
    · have e := ih (by omega)
      rw [if_pos (by rw [e]; exact hf), e]

/-- the j-th instruction -/
def cd (L : List K) (j : Nat) : K := L.getD j (0, 0)
def lookAll (p : Nums) (L : List K) (k : Nat) : Int := firstE (fun i => lookN p L.length i (cd L i)) k
/-- a depth is laid at the places to which one goes -/
def putD (d : List Int) (x : Int) : List Nat → Option (List Int)
  | [] => some d
  | t :: r => if d.getD t 0 ≠ -1 ∧ d.getD t 0 ≠ x then none else putD (d.set t x) x r
def stepD (k : K) (i : Nat) (d : List Int) : Option (List Int) :=
  if d.getD i 0 = -1 then some d
  else if d.getD i 0 - takesN k.1 < 0 ∨ 32 < d.getD i 0 - takesN k.1 + leavesN k.1 then none
  else putD d (d.getD i 0 - takesN k.1 + leavesN k.1) (nextN i k.1 k.2)
def startD (n : Nat) : List Int := 0 :: List.replicate n (-1)
def runD (L : List K) : Nat → Option (List Int)
  | 0 => some (startD L.length)
  | i + 1 => (runD L i).bind (stepD (cd L i) i)
/-- Depths: the list, and the error -/
def depthsN (p : Nums) (L : List K) : List Int × Int :=
  if limB p L.length = false then ([], 30)
  else if lookAll p L L.length ≠ 0 then ([], lookAll p L L.length)
  else match runD L L.length with
    | none => ([], 34)
    | some d => (d, 0)
def verifyN (p : Nums) (L : List K) : Int := (depthsN p L).2
/-- the longest ways from the places on, the last j places having been gone over -/
def mostV (m : List Int) (k : K) (i : Nat) : Int := (nextN i k.1 k.2).foldl (fun a t => max a (m.getD t 0)) 0 + 1
def mostN (L : List K) : Nat → List Int
  | 0 => List.replicate (L.length + 1) 0
  | j + 1 => (mostN L j).set (L.length - 1 - j) (mostV (mostN L j) (cd L (L.length - 1 - j)) (L.length - 1 - j))
def longestN (p : Nums) (L : List K) : Int × Int := if verifyN p L ≠ 0 then (0, verifyN p L) else ((mostN L L.length).getD 0 0, 0)

def NIn (p : Nums) : Prop := In64 p.args ∧ In64 p.reads ∧ In64 p.writes ∧ In64 p.locals
end Go.Proofs.YtiiplikmoodfnaaGreatDoor
/-
  A WORLD THAT HAS GROWN; '==' OF KEYS.
-/
namespace Go.Proofs.YtiiplikmoodfnaaGreatDoor
open Go.RowKit Go.Sort

theorem mixed : Tryz.prog.follows .mixedOrders = true := by kernel_rfl
/-- A WORLD THAT HAS GROWN: draws, new blocks behind. -/
def Grew (w w' : World) : Prop := ∃ q os, w' = grow (w.drewN q) os
theorem Grew.refl (w : World) : Grew w w := ⟨0, #[], by rw [grow_empty]; rfl⟩
theorem Grew.trans {a b c : World} (h1 : Grew a b) (h2 : Grew b c) : Grew a c := by
  obtain ⟨q, os, rfl⟩ := h1
  obtain ⟨q', os', rfl⟩ := h2
  exact ⟨q + q', os ++ os', by show grow (grow ((a.drewN q).drewN q') os) os' = _; rw [grow_grow, World.drewN_drewN]⟩
theorem Grew.alloc {a b : World} (h : Grew a b) (o : Obj) : Grew a (b.alloc o) := h.trans ⟨0, #[o], alloc_eq_grow _ _⟩
theorem Grew.drewN {a b : World} (h : Grew a b) (n : Nat) : Grew a (b.drewN n) := h.trans ⟨n, #[], by rw [grow_empty]⟩
theorem Grew.drew {a b : World} (h : Grew a b) : Grew a b.drew := h.drewN 1
theorem Grew.grow {a b : World} (h : Grew a b) (n : Nat) (os : Array Obj) : Grew a (grow (b.drewN n) os) := h.trans ⟨n, os, rfl⟩
theorem Grew.size {a b : World} (h : Grew a b) : a.heap.size ≤ b.heap.size := by obtain ⟨q, os, rfl⟩ := h; simp [Sort.grow]
theorem Grew.heap {a b : World} (h : Grew a b) {k : Nat} (hk : k < a.heap.size) : b.heap[k]? = a.heap[k]? := by
  obtain ⟨q, os, rfl⟩ := h; exact Sort.heap_grow_old (a.drewN q) os hk
theorem Grew.below {a b : World} (h : Grew a b) : Below a.heap.size a b := by
  refine ⟨?_, ?_, ?_, h.size, fun k hk => h.heap hk⟩ <;> obtain ⟨q, os, rfl⟩ := h <;> rfl
theorem cell_lt {w : World} {p : Addr} {v : Value} (hc : w.cell? p = some v) : p.block < w.heap.size := by
  by_cases hlt : p.block < w.heap.size
  · exact hlt
  · have hn : w.heap[p.block]? = none := Array.getElem?_eq_none_iff.2 (by omega)
    simp [World.cell?, hn] at hc
theorem Grew.cell {a b : World} (h : Grew a b) {p : Addr} {v : Value} (hc : a.cell? p = some v) : b.cell? p = some v := by
  obtain ⟨q, os, rfl⟩ := h
  exact cell_grown (cell_lt hc) hc q os

theorem heap_alloc_new {w : World} (o : Obj) (k : Nat) (h : k = w.heap.size) : (w.alloc o).heap[k]? = some o := by
  subst h; show (w.heap.push _)[w.heap.size]? = _; simp
theorem heap_alloc_old {w : World} (o : Obj) (k : Nat) (h : k < w.heap.size) : (w.alloc o).heap[k]? = w.heap[k]? := by
  show (w.heap.push _)[k]? = _; rw [Array.getElem?_push_lt h]; exact (Array.getElem?_eq_getElem h).symm
/-- a key's two cells -/
def ck (k : K) : List Value := [.int .i64 k.1, .int .i64 k.2]
/-- a key as a value -/
abbrev kv (k : K) : Value := .agg #[.int .i64 k.1, .int .i64 k.2]

/-- A BOX: a block's first two cells hold a key -/
def Box (w : World) (b : Nat) (x y : Int) : Prop := w.cell? ⟨b, 0, none⟩ = some (.int .i64 x) ∧ w.cell? ⟨b, 1, none⟩ = some (.int .i64 y)
theorem Box.new {w : World} {b : Nat} {x y : Int} (hb : b = w.heap.size) : Box (w.alloc (.cells #[.int .i64 x, .int .i64 y] 76)) b x y := by
  have h := heap_alloc_new (w := w) (.cells #[.int .i64 x, .int .i64 y] 76) b hb
  constructor <;> simp [World.cell?, h]
theorem Box.alloc {w : World} {b : Nat} {x y : Int} (h : Box w b x y) (o : Obj) : Box (w.alloc o) b x y := by
  have hg : Grew w (w.alloc o) := (Grew.refl w).alloc o
  exact ⟨hg.cell h.1, hg.cell h.2⟩
theorem Box.grew {w w1 : World} {b : Nat} {x y : Int} (h : Box w b x y) (hg : Grew w w1) : Box w1 b x y := ⟨hg.cell h.1, hg.cell h.2⟩

/-- '==' of two keys -/
theorem eqKey : EqlAt Tryz.prog 76 (fun x : K => .agg (ck x).toArray) (fun x y => decide (x = y)) := by
  refine ⟨fun x y w => ?_, GuardAt.agg _ (by kernel_rfl)⟩
  have u3 := Tryz.underlying3
  have a3 := Tryz.isAgg3
  have z3 := Tryz.sizeOf3
  have u2 := Tryz.underlying2
  have a2 := Tryz.isAgg2
  have z2 := Tryz.sizeOf2
  have hS : Tryz.prog.underlying 76 = some (.struct (Tryz.prog.fieldsOf 76)) := by kernel_rfl
  have hp : Tryz.prog.stoodInHeld 76 = false := by kernel_rfl
  simp only [ck]
  rw [run_eql_struct, show (10000 : Nat) = 9999 + 1 from rfl, run_equalIn_agg w 9999 76 _ _ hS hp]
  simp only [Program.fieldsOf, Tryz.underlying76]
  go_simp
  obtain ⟨x1, x2⟩ := x
  obtain ⟨y1, y2⟩ := y
  by_cases h1 : x1 = y1 <;> by_cases h2 : x2 = y2 <;> simp [h1, h2]
theorem run_eqKey (x1 x2 y1 y2 : Int) (w : World) : Sem.run Tryz.prog (binOp .eql 76 (.agg #[.int .i64 x1, .int .i64 x2]) (.agg #[.int .i64 y1, .int .i64 y2])) w = .ok (.bool (decide ((x1, x2) = (y1, y2)))) w := eqKey.1 (x1, x2) (y1, y2) w
theorem run_eqGuard (op : BinOp) (a b : Operand) (x1 x2 y1 y2 : Int) (w : World) : Sem.run Tryz.prog (eqGuard op 76 a b (.agg #[.int .i64 x1, .int .i64 x2]) (.agg #[.int .i64 y1, .int .i64 y2])) w = .ok () w := eqKey.2 op a b (x1, x2) (y1, y2) w


end Go.Proofs.YtiiplikmoodfnaaGreatDoor
/-
  LISTS OF KEYS IN MEMORY; append.
-/
namespace Go.Proofs.YtiiplikmoodfnaaGreatDoor
open Go.RowKit Go.Sort

/-- the cells of keys -/
def cks : List K → List Value
  | [] => []
  | k :: L => .int .i64 k.1 :: .int .i64 k.2 :: cks L
theorem cks_length (L : List K) : (cks L).length = L.length * 2 := by
  induction L with
  | nil => rfl
  | cons k L ih => simp only [cks, List.length_cons, ih]; omega
theorem cks_append (A B : List K) : cks (A ++ B) = cks A ++ cks B := by
  induction A with
  | nil => rfl
  | cons k A ih => simp [cks, ih]
/-- the j-th key -/
abbrev kd (L : List K) (j : Nat) : K := cd L j
theorem kd_cons_succ (k : K) (L : List K) (j : Nat) : kd (k :: L) (j + 1) = kd L j := by simp [kd, cd, cd]
theorem kd_get {L : List K} {j : Nat} (h : j < L.length) : L[j]? = some (kd L j) := by
  simp [kd, cd, List.getD_eq_getElem?_getD, List.getElem?_eq_getElem h]
theorem kd_mem {L : List K} {j : Nat} (h : j < L.length) : kd L j ∈ L := List.mem_of_getElem? (kd_get h)
theorem kd_left (A B : List K) (j : Nat) (h : j < A.length) : kd (A ++ B) j = kd A j := by
  have h1 := kd_get (L := A ++ B) (j := j) (by simp; omega)
  rw [List.getElem?_append_left h, kd_get h] at h1
  exact (Option.some.inj h1).symm
theorem kd_right (A B : List K) (j : Nat) (h : j < B.length) : kd (A ++ B) (A.length + j) = kd B j := by
  have h1 := kd_get (L := A ++ B) (j := A.length + j) (by simp; omega)
  rw [List.getElem?_append_right (by omega), show A.length + j - A.length = j by omega, kd_get h] at h1
  exact (Option.some.inj h1).symm
theorem take_kd (L : List K) (j : Nat) (h : j < L.length) : L.take (j + 1) = L.take j ++ [kd L j] := by
  rw [List.take_succ_eq_append_getElem h]
  have := kd_get h
  rw [List.getElem?_eq_getElem h] at this
  rw [Option.some.inj this]
theorem cks_at (L : List K) (j : Nat) (h : j < L.length) : (cks L)[j * 2]? = some (.int .i64 (kd L j).1) ∧ (cks L)[j * 2 + 1]? = some (.int .i64 (kd L j).2) := by
  induction L generalizing j with
  | nil => simp at h
  | cons k L ih =>
    cases j with
    | zero => simp [cks, kd, cd]
    | succ j =>
      have := ih j (by simp at h; omega)
      rw [kd_cons_succ, show (j + 1) * 2 = j * 2 + 1 + 1 by omega]
      simpa [cks] using this
theorem cks_one (L : List K) : ∀ v ∈ cks L, v.oneCell' = true := by
  induction L with
  | nil => simp [cks]
  | cons k L ih =>
    intro v hv
    simp only [cks, List.mem_cons] at hv
    rcases hv with rfl | rfl | h
    · rfl
    · rfl
    · exact ih v h

/-- A SLICE OF KEYS: the address and what its cells hold -/
def KeysAt (w : World) (ao : Option Addr) (L : List K) : Prop :=
  L = [] ∨ ∃ b off, ao = some ⟨b, off, none⟩ ∧ ∀ j u, (cks L)[j]? = some u → w.cell? ⟨b, off + j, none⟩ = some u
theorem KeysAt.at {w : World} {b off : Nat} {L : List K} (h : ∀ j u, (cks L)[j]? = some u → w.cell? ⟨b, off + j, none⟩ = some u) (j : Nat) (hj : j < L.length) :
    w.cell? ⟨b, off + j * 2, none⟩ = some (.int .i64 (kd L j).1) ∧ w.cell? ⟨b, off + j * 2 + 1, none⟩ = some (.int .i64 (kd L j).2) := by
  obtain ⟨h1, h2⟩ := cks_at L j hj
  exact ⟨h _ _ h1, by rw [Nat.add_assoc]; exact h _ _ h2⟩
theorem KeysAt.lt {w : World} {ao : Option Addr} {L : List K} (h : KeysAt w ao L) : ∀ a, L ≠ [] → ao = some a → a.block < w.heap.size := by
  intro a hne he
  rcases h with rfl | ⟨b, off, rfl, hc⟩
  · exact absurd rfl hne
  · cases he
    cases L with
    | nil => exact absurd rfl hne
    | cons k L => exact cell_lt (hc 0 _ (by simp [cks]; rfl))
theorem KeysAt.below {w w1 : World} {ao : Option Addr} {L : List K} (h : KeysAt w ao L) {B : Nat} (hb : Below B w w1) (hlt : ∀ a, L ≠ [] → ao = some a → a.block < B) : KeysAt w1 ao L := by
  rcases h with rfl | ⟨b, off, rfl, hc⟩
  · exact .inl rfl
  · by_cases hne : L = []
    · exact .inl hne
    · exact .inr ⟨b, off, rfl, fun j u hu => (hb.cell (p := ⟨b, off + j, none⟩) (hlt ⟨b, off, none⟩ hne rfl)).trans (hc j u hu)⟩
theorem KeysAt.kept {w w1 : World} {ao : Option Addr} {L : List K} (h : KeysAt w ao L) (hb : Below w.heap.size w w1) : KeysAt w1 ao L := h.below hb h.lt
theorem KeysAt.grew {w w1 : World} {ao : Option Addr} {L : List K} (h : KeysAt w ao L) (hg : Grew w w1) : KeysAt w1 ao L := h.kept hg.below
theorem addr_add (b off j : Nat) : (⟨b, off, none⟩ : Addr).add j = ⟨b, off + j, none⟩ := by unfold Addr.add; split <;> simp_all

/-- a slice of keys of the call's own -/
def OwnK (w : World) (base : Nat) (v : Value) (L : List K) : Prop := w.ownsRow base 76 2 v L.length (cks L)
theorem OwnK.nil (w : World) (base : Nat) : OwnK w base (.slice none 0 0) [] := World.ownsRow_nil _ _ _ _
theorem OwnK.shape {w : World} {base : Nat} {v : Value} {L : List K} (h : OwnK w base v L) :
    (v = .slice none 0 0 ∧ L = []) ∨ ∃ g cap, v = .slice (some ⟨g, 0, none⟩) L.length cap ∧ base ≤ g ∧ g < w.heap.size ∧ L.length ≤ cap ∧ cap ≤ maxLen ∧ KeysAt w (some ⟨g, 0, none⟩) L := by
  obtain ⟨hl, h⟩ := h
  rcases h with ⟨rfl, h0⟩ | ⟨g, cap, cur, rfl, hb, hg, hn, hm, hs, ht⟩
  · exact .inl ⟨rfl, List.eq_nil_of_length_eq_zero h0⟩
  · refine .inr ⟨g, cap, rfl, hb, (Array.getElem?_eq_some_iff.1 hg).1, hn, hm, .inr ⟨g, 0, rfl, fun j u hu => ?_⟩⟩
    have hj : j < L.length * 2 := by rw [← cks_length]; exact (List.getElem?_eq_some_iff.1 hu).1
    have e := World.ownsRow.cellAt (w := w) (base := base) (e := 76) (size := 2) (g := g) (cap := cap) ⟨hl, .inr ⟨g, cap, cur, rfl, hb, hg, hn, hm, hs, ht⟩⟩ j hj
    rw [Nat.zero_add, e, hu]
theorem OwnK.slice {w : World} {base : Nat} {v : Value} {L : List K} (h : OwnK w base v L) : ∃ ao cap, v = .slice ao L.length cap ∧ KeysAt w ao L ∧ (ao = none → cap = 0) ∧ L.length ≤ cap := by
  rcases h.shape with ⟨rfl, rfl⟩ | ⟨g, cap, rfl, _, _, hc, _, hb⟩
  · exact ⟨none, 0, rfl, .inl rfl, fun _ => rfl, by simp⟩
  · exact ⟨_, cap, rfl, hb, by simp, hc⟩
theorem OwnK.alloc {w : World} {base : Nat} {v : Value} {L : List K} (h : OwnK w base v L) (o : Obj) : OwnK (w.alloc o) base v L := World.ownsRow.alloc h o
theorem OwnK.drewN {w : World} {base : Nat} {v : Value} {L : List K} (h : OwnK w base v L) (n : Nat) : OwnK (w.drewN n) base v L := h
theorem OwnK.mono {w : World} {base base' : Nat} {v : Value} {L : List K} (h : OwnK w base v L) (hb : base' ≤ base) : OwnK w base' v L := by
  obtain ⟨hl, h⟩ := h
  refine ⟨hl, ?_⟩
  rcases h with h | ⟨g, cap, cur, e, hg, r⟩
  · exact .inl h
  · exact .inr ⟨g, cap, cur, e, by omega, r⟩
theorem OwnK.lt {w : World} {base : Nat} {v : Value} {L : List K} (h : OwnK w base v L) : ∀ k, v.ownBlock = some k → base ≤ k ∧ k < w.heap.size := World.ownsRow.lt h
theorem OwnK.same {w w1 : World} {base : Nat} {v : Value} {L : List K} (h : OwnK w base v L) (hs : ∀ g, v.ownBlock = some g → w1.heap[g]? = w.heap[g]?) : OwnK w1 base v L := by
  obtain ⟨hl, h⟩ := h
  refine ⟨hl, ?_⟩
  rcases h with h | ⟨g, cap, cur, rfl, hg, hh, r⟩
  · exact .inl h
  · exact .inr ⟨g, cap, cur, rfl, hg, (hs g rfl).trans hh, r⟩
theorem OwnK.kept {w w1 : World} {base : Nat} {v : Value} {L : List K} (h : OwnK w base v L) (hb : Below w.heap.size w w1) : OwnK w1 base v L :=
  h.same fun g hg => hb.block g (h.lt g hg).2

theorem infoK : (Tryz.prog.info? 76).map (fun i => (i.zero, i.size, i.bytes)) = some (some (.agg #[.int .i64 0, .int .i64 0]), 2, 16) := by kernel_rfl
/-- append at a slice of keys of the call's own, whatever slice of keys is appended: one equation -/
theorem run_append_keys {w : World} (ty : TypeId) (base : Nat) (v : Value) (L : List K) (hown : OwnK w base v L)
    (ao : Option Addr) (m c : Nat) (M : List K) (hm : m = M.length) (hsrc : KeysAt w ao M) (hnil : ao = none → c = 0) (hlen : (L.length + M.length) * 16 ≤ 140737488355328) (hbase : base ≤ w.heap.size) :
    ∃ v' w', (Builtin.append_ #[40, 40] ty #[v, .slice ao m c]).run Tryz.prog w = .ok v' w' ∧ OwnK w' base v' (L ++ M) ∧ w.grownBy w' v.ownBlock ∧ (v'.ownBlock = v.ownBlock ∨ v'.ownBlock = some w.heap.size) := by
  obtain ⟨i0, hi, hz0, hz1, hz2⟩ := info_parts infoK
  subst hm
  cases ao with
  | none =>
    have h0 : M = [] := by
      rcases hsrc with h1 | ⟨b, off, h1, _⟩
      · exact h1
      · cases h1
    subst h0
    obtain rfl := hnil rfl
    exact ⟨v, w, run_append_owned_none (P := Tryz.prog) (w := w) base 40 ty 76 i0 2 Tryz.underlying40 hi v L.length (cks L) hown, by simpa using hown, World.grownBy.refl _ _, .inl rfl⟩
  | some ad =>
    obtain ⟨v', w', hr, h2, h3, _, h5⟩ := run_append_own_at (P := Tryz.prog) w base 40 ty 76 i0 (.agg #[.int .i64 0, .int .i64 0]) 2 16 Tryz.underlying40 hi hz0 hz1 hz2 rfl (by decide) v L.length (cks L) hown ad M.length c (cks M) (cks_length M)
      (by
        intro j u hu
        rcases hsrc with h0 | ⟨b, off, e, hc⟩
        · subst h0; simp [cks] at hu
        · cases e
          rw [addr_add]; exact hc j u hu) (cks_one M) (by unfold maxLen; omega) hlen hbase
    exact ⟨v', w', hr, by unfold OwnK; rw [List.length_append, cks_append]; exact h2, h3, h5⟩
theorem wpList_append_keys {w : World} {ops : Array Oper} {rest : List Oper} {o : Oper} {a : Act} {Q : Exit → Act → World → Prop} (hgd : o.guard = none) (s x : Operand)
    (ho : o.op = .call { callee := .builtin .append, args := #[s, x], argTypes := #[40, 40] }) (base : Nat) (v : Value) (L : List K) (hs : a.eval s = v) (hown : OwnK w base v L)
    (ao : Option Addr) (m c : Nat) (M : List K) (hx : a.eval x = .slice ao m c) (hm : m = M.length) (hsrc : KeysAt w ao M) (hnil : ao = none → c = 0) (hlen : (L.length + M.length) * 16 ≤ 140737488355328) (hbase : base ≤ w.heap.size)
    (h : ∀ v' w', OwnK w' base v' (L ++ M) → w.grownBy w' v.ownBlock → (v'.ownBlock = v.ownBlock ∨ v'.ownBlock = some w.heap.size) → wpList Tryz.prog ops Q rest (a.put o.dst v') w') : wpList Tryz.prog ops Q (o :: rest) a w := by
  obtain ⟨v', w', hr, h2, h3, h4⟩ := run_append_keys o.type base v L hown ao m c M hm hsrc hnil hlen hbase
  refine wpList_plain hgd fun K hK' => ?_
  unfold Oper.wp
  simp [execOp, ho, resolve, invoke, builtin, hs, hx, hr, Result.andThen]
  exact hK' _ _ (h v' w' h2 h3 h4)
theorem step_append_keys {w : World} {ops : Array Oper} {o : Oper} {a : Act} {K' : Act → World → Prop} {Q : Exit → Act → World → Prop} {E : Prop} (hgd : o.guard = none) (s x : Operand)
    (ho : o.op = .call { callee := .builtin .append, args := #[s, x], argTypes := #[40, 40] }) (base : Nat) (v : Value) (L : List K) (hs : a.eval s = v) (hown : OwnK w base v L)
    (ao : Option Addr) (m c : Nat) (M : List K) (hx : a.eval x = .slice ao m c) (hm : m = M.length) (hsrc : KeysAt w ao M) (hnil : ao = none → c = 0) (hlen : (L.length + M.length) * 16 ≤ 140737488355328) (hbase : base ≤ w.heap.size)
    (h : ∀ v' w', OwnK w' base v' (L ++ M) → w.grownBy w' v.ownBlock → (v'.ownBlock = v.ownBlock ∨ v'.ownBlock = some w.heap.size) → K' (a.put o.dst v') w') :
    if Region.wanted o (yielded ops a.tmps) = true then Oper.wp Tryz.prog o a w K' Q else E := by
  have hw : Region.wanted o (yielded ops a.tmps) = true := by simp [Region.wanted, hgd]
  rw [if_pos hw]
  obtain ⟨v', w', hr, h2, h3, h4⟩ := run_append_keys o.type base v L hown ao m c M hm hsrc hnil hlen hbase
  unfold Oper.wp execOp
  simp only [ho, resolve, invoke, builtin, Sem.run_bind, Sem.run_pure, Result.andThen_ok, List.map_toArray, List.map_cons, List.map_nil, hs, hx, hr]
  exact h v' w' h2 h3 h4
/-- one key, laid for an append -/
theorem key_src (w : World) (B : Nat) (x y : Int) (hB : B = w.heap.size) : KeysAt (w.alloc (.cells #[.int .i64 x, .int .i64 y] 76)) (some ⟨B, 0, none⟩) [(x, y)] := by
  have hb := Box.new (w := w) (b := B) (x := x) (y := y) hB
  refine .inr ⟨B, 0, rfl, fun j u hu => ?_⟩
  match j, hu with
  | 0, hu => simp [cks] at hu; rw [← hu]; exact hb.1
  | 1, hu => simp [cks] at hu; rw [← hu]; exact hb.2
  | j + 2, hu => simp [cks] at hu

theorem grown_belowK {w w1 : World} {row : Option Nat} {B : Nat} (h : w.grownBy w1 row) (hr : ∀ k, row = some k → B ≤ k) (hB : B ≤ w.heap.size) : Below B w w1 :=
  ⟨h.os, h.tape, h.output, h.size, fun k hk => h.block k (by omega) (fun e => by have := hr k e.symm; omega)⟩
/-- a program as a value -/
abbrev pv (p : Nums) (ao : Option Addr) (n cap : Nat) : Value := .agg #[.int .i64 p.args, .int .i64 p.reads, .int .i64 p.writes, .int .i64 p.locals, .slice ao n cap]
end Go.Proofs.YtiiplikmoodfnaaGreatDoor
/-
  THE WALKS OF isOp, takes, leaves, onward.
-/
namespace Go.Proofs.YtiiplikmoodfnaaGreatDoor
open Go.RowKit Go.Sort

theorem isOp_any (w : World) (op : Int) :
    Calls Tryz.prog 88 #[.int .i64 op] w fun e w' => e = .returned (.bool (isOpB op)) ∧ w' = w := by
  have HE : Hid (∀ b : Bool, isOpB op = b → isOpB op = b) := fun b h => h
  go_enter Tryz.func88, Tryz.ntmps88
  by_cases h0 : 0 ≤ op
  · by_cases h1 : op < 37
    · go_wp2
      go_ret
      exact ⟨by rw [HE.out true (by simp [isOpB]; omega)]; rfl, rfl⟩
    · have h1' : decide (op < 37) = false := by simpa using h1
      go_wp2
      go_ret
      exact ⟨by rw [HE.out false (by simp [isOpB]; omega)]; rfl, rfl⟩
  · have h0' : decide (0 ≤ op) = false := by simpa using h0
    go_wp2
    go_ret
    exact ⟨by rw [HE.out false (by simp [isOpB]; omega)]; rfl, rfl⟩

set_option maxHeartbeats 2000000 in
theorem takes_any (w : World) (op : Int) (h : isOpB op = true) :
    Calls Tryz.prog 91 #[.int .i64 op] w fun e w' => e = .returned (.int .i64 (takesN op)) ∧ w' = w := by
  rcases op_cases h with rfl | rfl | rfl | rfl | rfl | rfl | rfl | rfl | rfl | rfl | rfl | rfl | rfl | rfl | rfl | rfl | rfl | rfl | rfl | rfl | rfl | rfl | rfl | rfl | rfl | rfl | rfl | rfl | rfl | rfl | rfl | rfl | rfl | rfl | rfl | rfl | rfl <;> clear h <;>
  (go_enter Tryz.func91, Tryz.ntmps91
   go_wp2
   go_ret
   exact ⟨rfl, rfl⟩)

set_option maxHeartbeats 2000000 in
theorem leaves_any (w : World) (op : Int) (h : isOpB op = true) :
    Calls Tryz.prog 92 #[.int .i64 op] w fun e w' => e = .returned (.int .i64 (leavesN op)) ∧ w' = w := by
  rcases op_cases h with rfl | rfl | rfl | rfl | rfl | rfl | rfl | rfl | rfl | rfl | rfl | rfl | rfl | rfl | rfl | rfl | rfl | rfl | rfl | rfl | rfl | rfl | rfl | rfl | rfl | rfl | rfl | rfl | rfl | rfl | rfl | rfl | rfl | rfl | rfl | rfl | rfl <;> clear h <;>
  (go_enter Tryz.func92, Tryz.ntmps92
   go_wp2
   go_ret
   exact ⟨rfl, rfl⟩)

end Go.Proofs.YtiiplikmoodfnaaGreatDoor
