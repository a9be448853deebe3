/-
  SOURCE: HOW FAR BLANKS AND COMMENTS GO.
-/
import Derived.Test.YtlabofafmcbfmaaGreatDoorSrSkip
namespace Go.Proofs.YtlabofafmcbfmaaGreatDoor
open Go.RowKit Go.Sort Go.Shelf

def skC : Nat → List UInt8 → Nat
  | 0, _ => 0
  | f + 1, l => if gapL l = 0 then 0 else gapL l + skC f (l.drop (gapL l))
theorem skN_skC : ∀ (f : Nat) (l : List UInt8) (p : Nat × Nat), skN f l p = (l.drop (skC f l), spL p (l.take (skC f l)))
  | 0, l, p => by simp [skN, skC, spL]
  | f + 1, l, p => by
    unfold skN skC
    split
    · simp [spL]
    · rw [skN_skC f, List.drop_drop, ← spL_app, ← List.take_add]
theorem gapL_nil : gapL [] = 0 := rfl
theorem skC_fuel : ∀ (f f' : Nat) (l : List UInt8), l.length ≤ f → l.length ≤ f' → skC f l = skC f' l
  | 0, 0, _, _, _ => rfl
  | 0, f' + 1, l, h, _ => by
    have : l = [] := List.eq_nil_of_length_eq_zero (by omega)
    subst this
    simp [skC, gapL_nil]
  | f + 1, 0, l, _, h => by
    have : l = [] := List.eq_nil_of_length_eq_zero (by omega)
    subst this
    simp [skC, gapL_nil]
  | f + 1, f' + 1, l, h, h' => by
    unfold skC
    split
    · rfl
    · rw [skC_fuel f f' _ (by simp; omega) (by simp; omega)]
/-- how many bytes stand ahead of the next token -/
def KL (l : List UInt8) : Nat := skC l.length l
theorem KL_stop {l : List UInt8} (h : gapL l = 0) : KL l = 0 := by
  unfold KL
  cases l.length with
  | zero => rfl
  | succ n => simp [skC, h]
theorem KL_go {l : List UInt8} (h : gapL l ≠ 0) : KL l = gapL l + KL (l.drop (gapL l)) := by
  have hl := gapL_le l
  unfold KL
  obtain ⟨n, hn⟩ : ∃ n, l.length = n + 1 := ⟨l.length - 1, by omega⟩
  rw [hn]
  have e : skC (n + 1) l = gapL l + skC n (l.drop (gapL l)) := by simp [skC, h]
  rw [e, skC_fuel n (l.drop (gapL l)).length _ (by simp; omega) (Nat.le_refl _)]
theorem skL_KL (l : List UInt8) (p : Nat × Nat) : skL l p = (l.drop (KL l), spL p (l.take (KL l))) := skN_skC _ _ _
theorem KL_le (l : List UInt8) : KL l ≤ l.length := by
  unfold KL
  suffices h : ∀ (f : Nat) (l : List UInt8), skC f l ≤ l.length from h _ _
  intro f
  induction f with
  | zero => intro l; simp [skC]
  | succ f ih =>
    intro l
    unfold skC
    split
    · omega
    · have h1 := ih (l.drop (gapL l))
      have h2 := gapL_le l
      simp only [List.length_drop] at h1
      omega
theorem pre_no {a : UInt8} {b : UInt8} {r : List UInt8} {x : UInt8} (h : a.toNat ≠ x.toNat) : [x, b].isPrefixOf (a :: r) = false := by
  have : (x == a) = false := by
    rw [beq_eq_false_iff_ne]
    intro e
    exact h (by rw [e])
  simp [List.isPrefixOf, this]
theorem gap_other {a : UInt8} {r : List UInt8} (h : a.toNat ≠ 47) : gapL (a :: r) = frB blC (a :: r) := by
  unfold gapL
  rw [pre_no (x := 47) h, pre_no (x := 47) h]
  simp
theorem KL_blank {a : UInt8} {r : List UInt8} (h : blC a.toNat = true) : KL (a :: r) = 1 + KL r := by
  have h47 : a.toNat ≠ 47 := by
    intro e
    rw [e] at h
    revert h
    decide
  have g1 : gapL (a :: r) = frB blC r + 1 := by rw [gap_other h47]; simp [frB, h]
  have k1 := KL_go (l := a :: r) (by omega)
  rw [g1, List.drop_succ_cons] at k1
  rw [k1]
  cases r with
  | nil => simp [frB, KL, skC]
  | cons b r2 =>
    by_cases hb : blC b.toNat = true
    · have hb47 : b.toNat ≠ 47 := by
        intro e
        rw [e] at hb
        revert hb
        decide
      have g2 : gapL (b :: r2) = frB blC (b :: r2) := gap_other hb47
      have hp : frB blC (b :: r2) ≠ 0 := by simp [frB, hb]
      have k2 := KL_go (l := b :: r2) (by rw [g2]; exact hp)
      rw [g2] at k2
      rw [k2]
      omega
    · have hz : frB blC (b :: r2) = 0 := by simp [frB, hb]
      rw [hz]
      simp
/-- no blank and no comment: nothing is skipped -/
theorem gap_none {l : List UInt8} (h1 : [47, 47].isPrefixOf l = false) (h2 : [47, 42].isPrefixOf l = false) (h3 : ∀ h : 0 < l.length, blC l[0].toNat = false) : gapL l = 0 := by
  unfold gapL
  rw [h1, h2]
  cases l with
  | nil => rfl
  | cons a r =>
    have := h3 (by simp)
    simp only [List.getElem_cons_zero] at this
    simp [frB, this]
end Go.Proofs.YtlabofafmcbfmaaGreatDoor
