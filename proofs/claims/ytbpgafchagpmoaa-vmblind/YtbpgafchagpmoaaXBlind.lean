/-
  VmBlind: WHAT IS NOT LOOKED AT.
-/
import Derived.Test.YtbpgafchagpmoaaXEnds
namespace Go.Proofs.Ytbpgafchagpmoaa
open Go.RowKit Go.Sort

/-- two lists of cells that look alike -/
structure Alike (R R' : List C) : Prop where
  len : R'.length = R.length
  is : ∀ i, (rd R' i).1 = (rd R i).1
  val : ∀ i, rdV (rd R' i) = rdV (rd R i)
theorem get_alike {R R' : List C} (h : Alike R R') (i : Int) (m : M) : getN R' i m = getN R i m := by
  unfold getN; rw [h.len, h.val]
theorem do_alike {R R' : List C} (h : Alike R R') (A : List Int) (op a : Int) (m : M) : doN A R' op a m = doN A R op a m := by
  unfold doN; rw [get_alike h, get_alike h, h.is]
theorem step_alike {R R' : List C} (h : Alike R R') (L : List K) (A : List Int) (m : M) : stepN L A R' m = stepN L A R m := by
  unfold stepN; rw [do_alike h]
theorem run_alike {R R' : List C} (h : Alike R R') (L : List K) (A : List Int) (m : M) : ∀ k, runN L A R' m k = runN L A R m k
  | 0 => rfl
  | k + 1 => by show stepN _ _ _ _ = stepN _ _ _ _; rw [run_alike h L A m k, step_alike h]
theorem newE_len {R R' : List C} (h : R'.length = R.length) (p : Nums) (L : List K) (A : List Int) : newE p L A R' = newE p L A R := by
  unfold newE fedB; rw [h]
theorem runX_alike {R R' : List C} (h : Alike R R') (p : Nums) (L : List K) (A : List Int) : runX p L A R' = runX p L A R := by
  unfold runX lastM; rw [newE_len h.len, run_alike h]
/-- a program that names no read -/
def NoRead (L : List K) : Prop := ∀ i, i < L.length → (cd L i).1 ≠ 7 ∧ (cd L i).1 ≠ 8 ∧ (cd L i).1 ≠ 9
theorem do_noread {op : Int} (h7 : op ≠ 7) (h8 : op ≠ 8) (h9 : op ≠ 9) (A : List Int) (R R' : List C) (a : Int) (m : M) : doN A R' op a m = doN A R op a m := by
  unfold doN
  rw [if_neg h7, if_neg h8, if_neg h9, if_neg h7, if_neg h8, if_neg h9]
theorem run_noread {L : List K} (h : NoRead L) (A : List Int) (R R' : List C) {p : Nums} {d : List Int} (hs : Sound p L d) {m : M} (hg : Good p L d m) : ∀ k, runN L A R' m k = runN L A R m k
  | 0 => rfl
  | k + 1 => by
    show stepN _ _ _ _ = stepN _ _ _ _
    rw [run_noread h A R R' hs hg k]
    have hgk := run_keeps (A := A) (R := R) hs hg k
    unfold stepN
    cases hd : doneB L.length (runN L A R m k) with
    | true => rw [if_pos rfl, if_pos rfl]
    | false =>
      have hat : (runN L A R m k).at_ < L.length := by
        simp only [doneB, Bool.or_eq_false_iff, decide_eq_false_iff_not] at hd
        have := hgk.pl; omega
      obtain ⟨h7, h8, h9⟩ := h _ hat
      rw [do_noread h7 h8 h9 A R R']
theorem runX_noread {L : List K} (h : NoRead L) (p : Nums) (A : List Int) {R R' : List C} (hl : R'.length = R.length) : runX p L A R' = runX p L A R := by
  unfold runX
  rw [newE_len hl]
  by_cases h0 : newE p L A R ≠ 0
  · rw [if_pos h0, if_pos h0]
  · rw [if_neg h0, if_neg h0]
    obtain ⟨hv, _, _⟩ := newE_zero (show newE p L A R = 0 by simpa using h0)
    obtain ⟨d, hs⟩ := sound_of hv
    unfold lastM
    rw [run_noread h A R R' hs (good_start hs)]
/-- one cell of the other list -/
def othC (V : List Int) (i : Nat) (c : C) : C := if c.1 = false ∧ 0 < V.length then (false, V.getD (i % V.length) 0) else c
def othL (R : List C) (V : List Int) (k : Nat) : List C := (List.range k).map fun i => othC V i (rd R i)
theorem oth_length (R : List C) (V : List Int) (k : Nat) : (othL R V k).length = k := by simp [othL]
theorem oth_snoc (R : List C) (V : List Int) (k : Nat) : othL R V (k + 1) = othL R V k ++ [othC V k (rd R k)] := by
  simp [othL, List.range_succ]
theorem rd_none (R : List C) (i : Nat) (h : R.length ≤ i) : rd R i = (false, 0) := by simp [rd, List.getD_eq_getElem?_getD, List.getElem?_eq_none h]
theorem rd_oth (R : List C) (V : List Int) (k i : Nat) (h : i < k) : rd (othL R V k) i = othC V i (rd R i) := by
  simp [rd, othL, List.getD_eq_getElem?_getD, h]
theorem oth_alike (R : List C) (V : List Int) : Alike R (othL R V R.length) := by
  have key : ∀ i, (rd (othL R V R.length) i).1 = (rd R i).1 ∧ rdV (rd (othL R V R.length) i) = rdV (rd R i) := fun i => by
    by_cases h : i < R.length
    · rw [rd_oth R V R.length i h]
      unfold othC
      split
      · rename_i hc; exact ⟨hc.1.symm, by simp [rdV, hc.1]⟩
      · exact ⟨rfl, rfl⟩
    · rw [rd_none _ i (by rw [oth_length]; omega), rd_none R i (by omega)]; exact ⟨rfl, rfl⟩
  exact ⟨oth_length _ _ _, fun i => (key i).1, fun i => (key i).2⟩
theorem ccs_append (A B : List C) : ccs (A ++ B) = ccs A ++ ccs B := by
  induction A with
  | nil => rfl
  | cons a A ih => simp [ccs, ih]
theorem ccs_set (S : List C) (i : Nat) (k : C) : ((ccs S).set (i * 2) (.bool k.1)).set (i * 2 + 1) (.int .i64 k.2) = ccs (S.set i k) := by
  induction S generalizing i with
  | nil => rfl
  | cons a S ih =>
    cases i with
    | zero => rfl
    | succ i =>
      rw [List.set_cons_succ, ccs, ccs, ← ih i, show (i + 1) * 2 = i * 2 + 1 + 1 by omega]
      rfl
theorem CellsAt.cell {w : World} {ao : Option Addr} {R : List C} (h : CellsAt w ao (ccs R)) (k : Nat) (hk : k < R.length) : ∃ b off, ao = some ⟨b, off, none⟩ ∧ w.cell? ⟨b, off + k * 2, none⟩ = some (.bool (rd R k).1) ∧ w.cell? ⟨b, off + k * 2 + 1, none⟩ = some (.int .i64 (rd R k).2) := by
  obtain ⟨e1, e2⟩ := ccs_at R k hk
  rcases h with h | ⟨b, off, rfl, hc⟩
  · have := congrArg List.length h; rw [ccs_length] at this; simp only [List.length_nil] at this; omega
  · exact ⟨b, off, rfl, hc _ _ e1, by rw [Nat.add_assoc]; exact hc _ _ e2⟩
/-- one cell, laid for an append -/
theorem cell_src (w : World) (b : Bool) (x : Int) : ∀ j u, ([Value.bool b, .int .i64 x] : List Value)[j]? = some u → (w.alloc (.cells #[.bool b, .int .i64 x] 64)).cell? ((⟨w.heap.size, 0, none⟩ : Addr).add j) = some u := by
  intro j u hu
  rw [addr_add, Nat.zero_add, World.cell?, heap_alloc_new _ _ rfl]
  show (#[Value.bool b, .int .i64 x] : Array Value)[j]? = some u
  simpa using hu
/-- the list behind k stores -/
def flipC (c : C) : C := (!c.1, wrap64 (c.2 - 1))
def flipL (S : List C) (k : Nat) : List C := (List.range S.length).map fun i => if i < k then flipC (rd S i) else rd S i
theorem flip_length (S : List C) (k : Nat) : (flipL S k).length = S.length := by simp [flipL]
theorem rd_flip (S : List C) (k i : Nat) (h : i < S.length) : rd (flipL S k) i = if i < k then flipC (rd S i) else rd S i := by
  simp [rd, flipL, List.getD_eq_getElem?_getD, h]
theorem flip_zero (S : List C) : flipL S 0 = S := by
  apply List.ext_getElem
  · simp [flipL]
  · intro i h1 h2
    simp [flipL, rd, List.getD_eq_getElem?_getD, h2]
theorem flip_step (S : List C) (k : Nat) (h : k < S.length) : (flipL S k).set k (flipC (rd (flipL S k) k)) = flipL S (k + 1) := by
  rw [rd_flip S k k h, if_neg (by omega)]
  apply List.ext_getElem
  · simp [flipL]
  · intro i h1 h2
    rw [List.getElem_set]
    simp only [flipL, List.getElem_map, List.getElem_range]
    by_cases e : k = i
    · subst e; simp
    · rw [if_neg e]
      by_cases hlt : i < k
      · rw [if_pos hlt, if_pos (by omega)]
      · rw [if_neg hlt, if_neg (by omega)]
end Go.Proofs.Ytbpgafchagpmoaa
