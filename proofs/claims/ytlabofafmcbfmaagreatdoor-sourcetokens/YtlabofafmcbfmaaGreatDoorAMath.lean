/-
  A TEXT's LINES AND WORDS, BYTE BY BYTE.
-/
import Derived.Lib.OthersKept
namespace Go.Proofs.YtlabofafmcbfmaaGreatDoor
open Go.RowKit

/-- a word: its bytes and its column -/
abbrev Wd := List UInt8 × Nat
/-- the split's state: lines, the words of the line that is read, its beginning, the word that has begun, is it a comment? -/
structure Sc where
  lines : List (List Wd)
  words : List Wd
  frm : Nat
  wf : Option Nat
  com : Bool
def endB (c : Nat) : Bool := decide (c = 32) || decide (c = 9) || decide (c = 13) || decide (c = 10) || decide (c = 35)
def pieceL (l : List UInt8) (f t : Nat) : List UInt8 := (l.take t).drop f
/-- a word ends -/
def scEnd (l : List UInt8) (x : Sc) (k c : Nat) : Sc :=
  match x.wf with
  | none => x
  | some f => if endB c then { x with words := x.words ++ [(pieceL l f k, f - x.frm + 1)], wf := none } else x
def scStep (l : List UInt8) (x : Sc) (k c : Nat) : Sc :=
  if c = 10 then { scEnd l x k c with lines := (scEnd l x k c).lines ++ [(scEnd l x k c).words], words := [], frm := k + 1, com := false }
  else if c = 35 then { scEnd l x k c with com := true }
  else if x.com = false ∧ endB c = false ∧ x.wf = none then { x with wf := some k }
  else scEnd l x k c
def byteAt (l : List UInt8) (k : Nat) : Nat := ((l ++ [10]).getD k 0).toNat
def scRun (l : List UInt8) : Nat → Sc
  | 0 => ⟨[], [], 0, none, false⟩
  | k + 1 => scStep l (scRun l k) k (byteAt l k)
def splitN (l : List UInt8) : List (List Wd) := (scRun l (l.length + 1)).lines

theorem endB_hi {c : Nat} (h : 128 ≤ c) : endB c = false := by
  unfold endB
  simp only [Bool.or_eq_false_iff, decide_eq_false_iff_not]
  omega
theorem scEnd_hi (l : List UInt8) (x : Sc) (k : Nat) {c : Nat} (h : 128 ≤ c) : scEnd l x k c = x := by
  unfold scEnd
  rw [endB_hi h]
  cases x.wf <;> rfl
theorem scStep_hi (l : List UInt8) (x : Sc) (k : Nat) {c : Nat} (h : 128 ≤ c) : scStep l x k c = if x.com = false ∧ x.wf = none then { x with wf := some k } else x := by
  unfold scStep
  rw [if_neg (by omega), if_neg (by omega), scEnd_hi l x k h, endB_hi h]
  simp
theorem scStep_like (l : List UInt8) (x : Sc) (k : Nat) {c c' : Nat} (h : 128 ≤ c) (h' : 128 ≤ c') : scStep l x k c = scStep l x k c' := by rw [scStep_hi l x k h, scStep_hi l x k h']
theorem scStep_rest (l : List UInt8) (x : Sc) (k k' : Nat) {c c' : Nat} (h : 128 ≤ c) (h' : 128 ≤ c') : scStep l (scStep l x k c) k' c' = scStep l x k c := by
  rw [scStep_hi l x k h, scStep_hi l _ k' h']
  by_cases h1 : x.com = false ∧ x.wf = none
  · rw [if_pos h1, if_neg (by simp)]
  · rw [if_neg h1, if_neg h1]
/-- the bytes of one sign, at once -/
theorem scRun_sign (l : List UInt8) (k : Nat) : ∀ j, (∀ i, i < j + 1 → 128 ≤ byteAt l (k + i)) → scRun l (k + (j + 1)) = scRun l (k + 1)
  | 0, _ => rfl
  | j + 1, h => by
    have ih := scRun_sign l k j (fun i hi => h i (by omega))
    show scStep l (scRun l (k + (j + 1))) (k + (j + 1)) (byteAt l (k + (j + 1))) = _
    rw [ih]
    exact scStep_rest l (scRun l k) k (k + (j + 1)) (h 0 (by omega)) (h (j + 1) (by omega))
/-- where a word stands -/
def ScOK (l : List UInt8) (k : Nat) (x : Sc) : Prop := x.frm ≤ k ∧ ∀ f, x.wf = some f → x.frm ≤ f ∧ f < k ∧ f < l.length
theorem scEnd_frm (l : List UInt8) (x : Sc) (k c : Nat) : (scEnd l x k c).frm = x.frm ∧ (scEnd l x k c).com = x.com ∧ (scEnd l x k c).lines = x.lines := by
  unfold scEnd
  cases x.wf with
  | none => exact ⟨rfl, rfl, rfl⟩
  | some f =>
    simp only
    split <;> exact ⟨rfl, rfl, rfl⟩
theorem scEnd_wf (l : List UInt8) (x : Sc) (k c f : Nat) (h : (scEnd l x k c).wf = some f) : x.wf = some f := by
  revert h
  unfold scEnd
  cases hx : x.wf with
  | none => simp [hx]
  | some g =>
    simp only
    split
    · intro h; cases h
    · intro h; rw [hx] at h; exact h
theorem byteAt_last (l : List UInt8) : byteAt l l.length = 10 := by simp [byteAt]
theorem byteAt_in (l : List UInt8) {k : Nat} (h : k < l.length) : byteAt l k = (l.getD k 0).toNat := by
  simp [byteAt, List.getD_eq_getElem?_getD, List.getElem?_append_left h]
theorem scRun_ok (l : List UInt8) : ∀ k, k ≤ l.length + 1 → ScOK l k (scRun l k)
  | 0, _ => ⟨Nat.le_refl _, fun f h => by cases h⟩
  | k + 1, hk => by
    obtain ⟨h1, h2⟩ := scRun_ok l k (by omega)
    show ScOK l (k + 1) (scStep l (scRun l k) k (byteAt l k))
    generalize hx : scRun l k = x at *
    obtain ⟨e1, _, _⟩ := scEnd_frm l x k (byteAt l k)
    have e3 : ∀ f, (scEnd l x k (byteAt l k)).wf = some f → x.frm ≤ f ∧ f < k + 1 ∧ f < l.length := fun f hf => by
      have := h2 f (scEnd_wf l x k _ f hf); omega
    unfold scStep
    split
    · next hc =>
      refine ⟨Nat.le_refl _, fun f hf => ?_⟩
      exfalso
      have hf' : (scEnd l x k (byteAt l k)).wf = some f := hf
      revert hf'
      unfold scEnd
      cases hw : x.wf with
      | none => simp [hw]
      | some g => simp [hc, endB]
    · split
      · exact ⟨by show (scEnd l x k (byteAt l k)).frm ≤ _; rw [e1]; omega, fun f hf => by show (scEnd l x k (byteAt l k)).frm ≤ _ ∧ _; rw [e1]; exact e3 f hf⟩
      · split
        · next h10 _ hc =>
          refine ⟨by show x.frm ≤ _; omega, fun f hf => ?_⟩
          cases hf
          refine ⟨h1, by omega, ?_⟩
          by_cases hl : k < l.length
          · exact hl
          · exact absurd (by rw [show k = l.length by omega]; exact byteAt_last l) h10
        · exact ⟨by rw [e1]; omega, fun f hf => by rw [e1]; exact e3 f hf⟩
end Go.Proofs.YtlabofafmcbfmaaGreatDoor
