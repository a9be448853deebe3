/-
  CHORES AND A LINE: mathematics.
-/
import Derived.Test.YteobmijfbjgccaaRows
namespace Go.Proofs.Yteobmijfbjgccaa

def updZ {α : Type} (f : Nat → α) (i : Nat) (v : α) : Nat → α := fun k => if k = i then v else f k
theorem updZ_same {α : Type} (f : Nat → α) (i : Nat) (v : α) : updZ f i v i = v := by simp [updZ]
theorem updZ_ne {α : Type} {f : Nat → α} {i k : Nat} {v : α} (h : k ≠ i) : updZ f i v k = f k := by simp [updZ, h]
theorem updZ_lt {α : Type} {f : Nat → α} {i k : Nat} {v : α} (h : k < i) : updZ f i v k = f k := updZ_ne (by omega)
/-- has it ended? (below 0: there is none) -/
def edZ (ls : Nat → Nat) (z : Int) : Bool := decide (z < 0) || decide (ls z.toNat = 0)
/-- is a chore ready? -/
def rdZ (ls : Nat → Nat) (B : Nat → List Int) (i : Nat) : Bool := !decide (ls i = 0) && (B i).all (edZ ls)
def decZ (ls : Nat → Nat) (i : Nat) : Nat → Nat := updZ ls i (ls i - 1)
/-- is a task ready? -/
def rtZ (ls : Nat → Nat) (B : Nat → List Int) (z : Int) : Bool := decide (0 ≤ z) && rdZ ls B z.toNat
/-- the places of those that are ready -/
def plcZ (ls : Nat → Nat) (B : Nat → List Int) (nt : Nat) (ts : Nat → Int) : List Nat := (List.range nt).filter (fun i => rtZ ls B (ts i))
/-- the place that a pick takes -/
def tkP (ls : Nat → Nat) (B : Nat → List Int) (nt : Nat) (ts : Nat → Int) (pick : Int) : Option Nat := (plcZ ls B nt ts)[(pick % ((plcZ ls B nt ts).length : Int)).toNat]?
def tkA (o : Option Nat) : Int := match o with | none => -1 | some p => (p : Int)
def tkL (ls : Nat → Nat) (ts : Nat → Int) (o : Option Nat) : Nat → Nat := match o with | none => ls | some p => decZ ls (ts p).toNat
def tkK (o : Option Nat) : Nat := match o with | none => 0 | some _ => 1
theorem plcZ_mem {ls : Nat → Nat} {B : Nat → List Int} {nt : Nat} {ts : Nat → Int} {p : Nat} : p ∈ plcZ ls B nt ts ↔ p < nt ∧ rtZ ls B (ts p) = true := by simp [plcZ]
theorem plcZ_len (ls : Nat → Nat) (B : Nat → List Int) (nt : Nat) (ts : Nat → Int) : (plcZ ls B nt ts).length ≤ nt := by
  have := List.length_filter_le (fun i => rtZ ls B (ts i)) (List.range nt)
  simpa [plcZ] using this
theorem plcZ_succ (ls : Nat → Nat) (B : Nat → List Int) (nt : Nat) (ts : Nat → Int) : plcZ ls B (nt + 1) ts = plcZ ls B nt ts ++ (if rtZ ls B (ts nt) then [nt] else []) := by
  unfold plcZ
  rw [List.range_succ, List.filter_append]
  congr 1
  by_cases h : rtZ ls B (ts nt) <;> simp [h]
theorem tkP_some {ls : Nat → Nat} {B : Nat → List Int} {nt : Nat} {ts : Nat → Int} {pick : Int} {p : Nat} (h : tkP ls B nt ts pick = some p) : p < nt ∧ rtZ ls B (ts p) = true := plcZ_mem.1 (List.mem_of_getElem? h)
theorem tkP_ne {ls : Nat → Nat} {B : Nat → List Int} {nt : Nat} {ts : Nat → Int} (pick : Int) (h : plcZ ls B nt ts ≠ []) : ∃ p, tkP ls B nt ts pick = some p := by
  have hl : 0 < (plcZ ls B nt ts).length := List.length_pos_iff.2 h
  have h1 := Int.emod_nonneg pick (b := ((plcZ ls B nt ts).length : Int)) (by omega)
  have h2 := Int.emod_lt_of_pos pick (b := ((plcZ ls B nt ts).length : Int)) (by omega)
  unfold tkP
  exact ⟨_, List.getElem?_eq_getElem (by omega)⟩
theorem tkP_nil {ls : Nat → Nat} {B : Nat → List Int} {nt : Nat} {ts : Nat → Int} (pick : Int) (h : plcZ ls B nt ts = []) : tkP ls B nt ts pick = none := by simp [tkP, h]
theorem tkP_none {ls : Nat → Nat} {B : Nat → List Int} {nt : Nat} {ts : Nat → Int} {pick : Int} : tkP ls B nt ts pick = none ↔ plcZ ls B nt ts = [] := by
  constructor
  · intro h
    by_cases e : plcZ ls B nt ts = []
    · exact e
    · obtain ⟨p, hp⟩ := tkP_ne pick e
      rw [h] at hp; cases hp
  · exact tkP_nil pick
theorem rtZ_pos {ls : Nat → Nat} {B : Nat → List Int} {z : Int} (h : rtZ ls B z = true) : 0 ≤ z ∧ rdZ ls B z.toNat = true := by simpa [rtZ] using h
theorem rdZ_pos {ls : Nat → Nat} {B : Nat → List Int} {i : Nat} (h : rdZ ls B i = true) : ls i ≠ 0 ∧ ∀ z ∈ B i, edZ ls z = true := by simpa [rdZ] using h
/-- what has ended stays so -/
theorem edZ_dec {ls : Nat → Nat} {i : Nat} {z : Int} (h : edZ ls z = true) : edZ (decZ ls i) z = true := by
  simp only [edZ, Bool.or_eq_true, decide_eq_true_eq] at *
  rcases h with h | h
  · exact .inl h
  · refine .inr ?_
    unfold decZ updZ
    split
    · rename_i e; rw [← e]; omega
    · exact h
theorem edZ_back {ls : Nat → Nat} {i : Nat} {z : Int} (h : edZ (decZ ls i) z = false) : edZ ls z = false := by
  cases e : edZ ls z with
  | false => rfl
  | true => rw [edZ_dec e] at h; cases h
/-- all steps that are left -/
def totZ (n : Nat) (ls : Nat → Nat) : Nat := ((List.range n).map ls).sum
theorem totZ_succ (n : Nat) (ls : Nat → Nat) : totZ (n + 1) ls = totZ n ls + ls n := by simp [totZ, List.range_succ]
theorem totZ_congr {n : Nat} {f g : Nat → Nat} (h : ∀ i, i < n → f i = g i) : totZ n f = totZ n g := by
  induction n with
  | zero => rfl
  | succ n ih => rw [totZ_succ, totZ_succ, ih (fun i hi => h i (by omega)), h n (by omega)]
theorem totZ_ge {n : Nat} {ls : Nat → Nat} {i : Nat} (hi : i < n) : ls i ≤ totZ n ls := by
  induction n with
  | zero => omega
  | succ n ih =>
    rw [totZ_succ]
    by_cases e : i = n
    · subst e; omega
    · have := ih (by omega); omega
theorem totZ_dec {n : Nat} {ls : Nat → Nat} {i : Nat} (hi : i < n) (h : ls i ≠ 0) : totZ n (decZ ls i) + 1 = totZ n ls := by
  induction n with
  | zero => omega
  | succ n ih =>
    rw [totZ_succ, totZ_succ]
    by_cases e : i = n
    · subst e
      rw [totZ_congr (g := ls) (fun k hk => by unfold decZ; exact updZ_lt hk)]
      unfold decZ
      rw [updZ_same]
      omega
    · have := ih (by omega)
      have h2 : decZ ls i n = ls n := by unfold decZ; exact updZ_ne (by omega)
      rw [h2]; omega
theorem totZ_zero {n : Nat} {ls : Nat → Nat} (h : totZ n ls = 0) (i : Nat) (hi : i < n) : ls i = 0 := by have := totZ_ge (ls := ls) hi; omega
theorem totZ_le {n : Nat} {ls : Nat → Nat} {m : Nat} (h : ∀ i, i < n → ls i ≤ m) : totZ n ls ≤ n * m := by
  induction n with
  | zero => simp [totZ]
  | succ n ih =>
    rw [totZ_succ, Nat.add_mul, Nat.one_mul]
    have := ih (fun i hi => h i (by omega)); have := h n (by omega); omega
/-- as long as a step is left, a chore is ready: the first that has one -/
theorem rdZ_first {n : Nat} {ls : Nat → Nat} {B : Nat → List Int} (hb : ∀ i, i < n → ∀ z ∈ B i, z < (i : Int)) (h : totZ n ls ≠ 0) : ∃ i, i < n ∧ rdZ ls B i = true := by
  induction n with
  | zero => simp [totZ] at h
  | succ n ih =>
    by_cases e : totZ n ls = 0
    · refine ⟨n, by omega, ?_⟩
      rw [totZ_succ] at h
      have h0 : ls n ≠ 0 := by omega
      simp only [rdZ, Bool.and_eq_true, Bool.not_eq_true', decide_eq_false_iff_not, List.all_eq_true]
      refine ⟨h0, fun z hz => ?_⟩
      have hz1 := hb n (by omega) z hz
      simp only [edZ, Bool.or_eq_true, decide_eq_true_eq]
      by_cases hz0 : z < 0
      · exact .inl hz0
      · exact .inr (totZ_zero e z.toNat (by omega))
    · obtain ⟨i, hi, hr⟩ := ih (fun i hi => hb i (by omega)) e
      exact ⟨i, by omega, hr⟩
/-- as many steps as there may be -/
def limZ (s : Int) : Nat := (min (max s 0) 65536).toNat
theorem limZ_le (s : Int) : limZ s ≤ 65536 := by unfold limZ; omega
theorem limZ_int (s : Int) : min (max s 0) 65536 = (limZ s : Int) := by unfold limZ; omega
end Go.Proofs.Yteobmijfbjgccaa
