/-
  A SOURCE TEXT's TOKENS, BYTE BY BYTE.
-/
import Derived.Test.YtlabofafmcbfmaaGreatDoorSrBase
import Derived.Lib.IndexLaws
namespace Go.Proofs.YtlabofafmcbfmaaGreatDoor
open Go.RowKit

def blC (c : Nat) : Bool := decide (c = 32) || decide (c = 9) || decide (c = 13) || decide (c = 10)
def leC (c : Nat) : Bool := (decide (97 ≤ c) && decide (c ≤ 122)) || (decide (65 ≤ c) && decide (c ≤ 90))
def diC (c : Nat) : Bool := decide (48 ≤ c) && decide (c ≤ 57)
def woC (c : Nat) : Bool := leC c || diC c || decide (c = 95)
def nlC (c : Nat) : Bool := !decide (c = 10)
/-- how many bytes fit at the front -/
def frB (f : Nat → Bool) : List UInt8 → Nat
  | [] => 0
  | b :: r => if f b.toNat then frB f r + 1 else 0
theorem frB_le (f : Nat → Bool) : ∀ l, frB f l ≤ l.length
  | [] => Nat.le_refl _
  | b :: r => by
    unfold frB
    split
    · have := frB_le f r; simp; omega
    · simp
/-- what stands at a place within the front -/
theorem frB_in (f : Nat → Bool) : ∀ (l : List UInt8) (i : Nat) (h : i < frB f l), f (l[i]'(Nat.lt_of_lt_of_le h (frB_le f l))).toNat = true
  | [], i, h => by simp [frB] at h
  | b :: r, 0, h => by
    unfold frB at h
    split at h
    · rename_i hb; simpa using hb
    · omega
  | b :: r, i + 1, h => by
    unfold frB at h
    split at h
    · simpa using frB_in f r i (by omega)
    · omega
theorem frB_out (f : Nat → Bool) : ∀ (l : List UInt8) (h : frB f l < l.length), f (l[frB f l]).toNat = false
  | [], h => by simp [frB] at h
  | b :: r, h => by
    by_cases hb : f b.toNat = true
    · have e : frB f (b :: r) = frB f r + 1 := by simp [frB, hb]
      have h2 : frB f r < r.length := by rw [e] at h; simpa using h
      simp only [e, List.getElem_cons_succ]
      exact frB_out f r h2
    · have hb' : f b.toNat = false := by simpa using hb
      have e : frB f (b :: r) = 0 := by simp [frB, hb']
      simp only [e, List.getElem_cons_zero]
      exact hb'
/-- a front is found by its end -/
theorem frB_of (f : Nat → Bool) : ∀ (l : List UInt8) (n : Nat), n ≤ l.length → (∀ i (h : i < l.length), i < n → f l[i].toNat = true) → (∀ h : n < l.length, f l[n].toNat = false) → frB f l = n
  | [], n, h, _, _ => by simp at h; simp [frB, h]
  | b :: r, 0, _, _, h2 => by
    have := h2 (by simp)
    simp only [List.getElem_cons_zero] at this
    simp [frB, this]
  | b :: r, n + 1, h, h1, h2 => by
    have hb := h1 0 (by simp) (by omega)
    simp only [List.getElem_cons_zero] at hb
    have ih := frB_of f r n (by simpa using h) (fun i hi hin => by have := h1 (i + 1) (by simp; omega) (by omega); simpa using this) (fun hn => by have := h2 (by simp; omega); simpa using this)
    simp [frB, hb, ih]
/-- how many bytes the blanks or the comment have that a text begins with -/
def gapL (l : List UInt8) : Nat :=
  if [47, 47].isPrefixOf l then frB nlC l
  else if [47, 42].isPrefixOf l then (if Lib.index (l.drop 2) [42, 47] < 0 then 0 else (Lib.index (l.drop 2) [42, 47]).toNat + 4)
  else frB blC l
/-- the place behind a byte -/
def spS (p : Nat × Nat) (c : UInt8) : Nat × Nat := if c.toNat = 10 then (p.1 + 1, 1) else (p.1, p.2 + 1)
def spL (p : Nat × Nat) (l : List UInt8) : Nat × Nat := l.foldl spS p
def nlN (l : List UInt8) : Nat := l.countP (fun c => decide (c.toNat = 10))
/-- the place of the last one, from the front -/
theorem spL_app (p : Nat × Nat) (a b : List UInt8) : spL p (a ++ b) = spL (spL p a) b := by simp [spL]
theorem spL_none : ∀ (l : List UInt8) (p : Nat × Nat), (∀ c ∈ l, c.toNat ≠ 10) → spL p l = (p.1, p.2 + l.length)
  | [], p, _ => by simp [spL]
  | c :: r, p, h => by
    have h1 := h c (by simp)
    have e : spL p (c :: r) = spL (p.1, p.2 + 1) r := by
      show (c :: r).foldl spS p = _
      simp only [List.foldl_cons, spS, if_neg h1]
      rfl
    rw [e, spL_none r _ (fun d hd => h d (by simp [hd]))]
    simp; omega
theorem spL_line : ∀ (l : List UInt8) (p : Nat × Nat), (spL p l).1 = p.1 + nlN l
  | [], p => by simp [spL, nlN]
  | c :: r, p => by
    have e : spL p (c :: r) = spL (spS p c) r := rfl
    rw [e, spL_line r]
    unfold nlN
    rw [List.countP_cons]
    unfold spS
    split <;> simp_all <;> omega
/-- where a feed is the last one -/
theorem spL_last (a b : List UInt8) (p : Nat × Nat) (c : UInt8) (hc : c.toNat = 10) (hb : ∀ d ∈ b, d.toNat ≠ 10) : (spL p (a ++ c :: b)).2 = b.length + 1 := by
  have e : spL p (a ++ c :: b) = spL (spS (spL p a) c) b := by rw [spL_app]; rfl
  rw [e, spL_none b _ hb]
  unfold spS
  rw [if_pos hc]
  simp; omega
end Go.Proofs.YtlabofafmcbfmaaGreatDoor
