/-
  WHAT A SCRIPT WRITES, AND HOW IT IS READ BACK.
-/
import Derived.Test.YthdlilekilkogaaGood
import Derived.Test.YthdlilekilkogaaWriter
import Derived.Test.YthdlilekilkogaaOpenOps
namespace Go.Proofs.Ythdlilekilkogaa
open Go.RowKit

/-- int64(n) -/
def sgn (n : Nat) : Int := wrap64 (n : Int)
theorem sgn_range (n : Nat) : -9223372036854775808 ≤ sgn n ∧ sgn n ≤ 9223372036854775807 := by
  unfold sgn wrap64; omega
theorem unfold_fold (z : Int) (h0 : -9223372036854775808 ≤ z) (h1 : z ≤ 9223372036854775807) : unfold (fold z) = z := by
  unfold unfold fold
  split <;> split <;> omega

theorem kEq {k c : Int} (h : (k == c) = true) : k = c := by simpa using h
theorem kNe {k c : Int} (h : (k == c) = false) : ¬ k = c := by simpa using h
def encOp (o : OpV) : List Nat :=
  if o.kind = 1 then [o.n % 256] else if o.kind = 2 ∨ o.kind = 6 then uint 10 o.n else if o.kind = 3 then uint 10 (fold (sgn o.n)) else if o.kind = 4 then uint 10 o.bs.length ++ o.bs else if o.kind = 5 then o.bs else []
def encs : List OpV → List Nat
  | [] => []
  | o :: r => encOp o ++ encs r
theorem encs_append (a b : List OpV) : encs (a ++ b) = encs a ++ encs b := by
  induction a with
  | nil => rfl
  | cons o r ih => simp only [List.cons_append, encs, ih, List.append_assoc]
theorem encOp_lt (o : OpV) (h : ∀ z ∈ o.bs, z < 256) : ∀ z ∈ encOp o, z < 256 := by
  intro z hz
  unfold encOp at hz
  split at hz
  · simp at hz; omega
  · split at hz
    · exact uint_lt _ _ z hz
    · split at hz
      · exact uint_lt _ _ z hz
      · split at hz
        · rcases List.mem_append.1 hz with h1 | h1
          · exact uint_lt _ _ z h1
          · exact h z h1
        · split at hz
          · exact h z hz
          · simp at hz
theorem encOp_length (o : OpV) : (encOp o).length ≤ 11 + o.bs.length := by
  unfold encOp
  split
  · simp; omega
  · split
    · have := uint_length 10 o.n; omega
    · split
      · have := uint_length 10 (fold (sgn o.n)); omega
      · split
        · have := uint_length 10 o.bs.length; rw [List.length_append]; omega
        · split
          · omega
          · simp
theorem encs_length : ∀ ops : List OpV, (encs ops).length ≤ 11 * bulkOps ops
  | [] => by simp [encs]
  | o :: r => by
    have h1 := encOp_length o
    have h2 := encs_length r
    simp only [encs, List.length_append, bulkOps, List.map_cons, List.sum_cons] at h2 ⊢
    omega
theorem take_op (ops : List OpV) (k : Nat) (h : k < ops.length) : ops.take (k + 1) = ops.take k ++ [ops.getD k default] := by
  rw [List.take_succ_eq_append_getElem h, List.getD_eq_getElem?_getD, List.getElem?_eq_getElem h]; rfl
theorem encs_take (ops : List OpV) (k : Nat) (h : k < ops.length) : encs (ops.take (k + 1)) = encs (ops.take k) ++ encOp (ops.getD k default) := by
  rw [take_op ops k h, encs_append]; simp [encs]
/-- where the k-th call stands -/
def posOp (ops : List OpV) (k : Nat) : Nat := (encs (ops.take k)).length
theorem posOp_succ (ops : List OpV) (k : Nat) (h : k < ops.length) : posOp ops (k + 1) = posOp ops k + (encOp (ops.getD k default)).length := by
  unfold posOp; rw [encs_take ops k h, List.length_append]
theorem posOp_all (ops : List OpV) : posOp ops ops.length = (encs ops).length := by unfold posOp; rw [List.take_length]
theorem encs_at (ops : List OpV) (k : Nat) (h : k < ops.length) : (encs ops).drop (posOp ops k) = encOp (ops.getD k default) ++ encs (ops.drop (k + 1)) := by
  have e : encs ops = encs (ops.take k) ++ (encOp (ops.getD k default) ++ encs (ops.drop (k + 1))) := by
    rw [← List.append_assoc, ← encs_take ops k h, ← encs_append, List.take_append_drop]
  rw [e]
  unfold posOp
  rw [List.drop_left]
theorem posOp_le (ops : List OpV) (k : Nat) : posOp ops k ≤ (encs ops).length := by
  have e : encs ops = encs (ops.take k) ++ encs (ops.drop k) := by rw [← encs_append, List.take_append_drop]
  unfold posOp
  rw [e, List.length_append]
  omega

theorem rdByte_at (b : List Nat) (p z : Nat) (R : List Nat) (h : b.drop p = z :: R) : rdByte b p 0 = (z, p + 1, 0) := by
  have hl : p < b.length := by
    have := congrArg List.length h
    rw [List.length_drop, List.length_cons] at this
    omega
  have hg : b.getD p 0 = z := by
    rw [List.drop_eq_getElem_cons hl] at h
    rw [List.getD_eq_getElem?_getD, List.getElem?_eq_getElem hl]
    exact (List.cons.inj h).1
  unfold rdByte
  rw [if_neg (by simp), if_neg (by omega), hg]
theorem scan_at (n : Nat) (hn : n < 18446744073709551616) (R : List Nat) : scan (uint 10 n ++ R) = (n, (uint 10 n).length, 0) := by
  have h := scan_uint R 9 0 0 n (by omega) (by simpa using hn) (by omega)
  simpa [scan] using h
theorem rdUpto_at (b : List Nat) (p n most : Nat) (R : List Nat) (hn : n < 18446744073709551616) (hm : n ≤ most) (h : b.drop p = uint 10 n ++ R) : rdUpto b p 0 most = (n, p + (uint 10 n).length, 0) := by
  unfold rdUpto
  rw [h, scan_at n hn R]
  simp only [ne_eq, not_true, if_false]
  rw [if_neg (by omega)]
theorem rdRaw_at (b : List Nat) (p : Nat) (bs R : List Nat) (h : b.drop p = bs ++ R) : rdRaw b p 0 (bs.length : Int) = (bs, p + bs.length, 0) := by
  have hl := congrArg List.length h
  rw [List.length_drop, List.length_append] at hl
  rw [rdRaw_ok b p bs.length (by omega), h, List.take_left]
theorem rdBytes_at (b : List Nat) (p : Nat) (bs R : List Nat) (hn : bs.length < 18446744073709551616) (h : b.drop p = uint 10 bs.length ++ bs ++ R) : rdBytes b p 0 (bs.length : Int) = (bs, p + (uint 10 bs.length ++ bs).length, 0) := by
  have hl := congrArg List.length h
  rw [List.length_drop, List.length_append, List.length_append] at hl
  have h2 : b.drop (p + (uint 10 bs.length).length) = bs ++ R := by
    rw [← List.drop_drop, h, List.append_assoc, List.drop_left]
  unfold rdBytes
  rw [h, List.append_assoc, scan_at bs.length hn]
  simp only [ne_eq, not_true, if_false]
  rw [if_neg (by omega), if_neg (by omega), rdRaw_at b _ bs R h2, List.length_append]
  congr 2
  omega

/-! A prefix: what is read of it is what is read of the whole. -/
theorem scanFrom_more (R : List Nat) : ∀ (C : List Nat) (i acc n k : Nat), scanFrom i acc C = (n, k, 0) → scanFrom i acc (C ++ R) = (n, k, 0)
  | [], i, acc, n, k, h => by simp [scanFrom] at h
  | c :: C, i, acc, n, k, h => by
    rw [List.cons_append, scanFrom]
    rw [scanFrom] at h
    split at h
    · simp at h
    · rename_i h1
      rw [if_neg h1]
      split at h
      · rename_i h2
        rw [if_pos h2]; exact h
      · rename_i h2
        rw [if_neg h2]
        exact scanFrom_more R C _ _ _ _ h
theorem scan_more (C R : List Nat) (h : (scan C).2.2 = 0) : scan (C ++ R) = scan C := by
  have h1 := scanFrom_more R C 0 0 (scan C).1 (scan C).2.1 (by show scan C = _; rw [← h])
  show scanFrom 0 0 (C ++ R) = _
  rw [h1, ← h]
theorem drop_more (b T : List Nat) (p : Nat) (h : p ≤ b.length) : (b ++ T).drop p = b.drop p ++ T := by
  rw [List.drop_append, show p - b.length = 0 by omega, List.drop_zero]

theorem rdByte_z (b : List Nat) (p : Nat) : rdByte b p 0 = if p = b.length then (0, p, 10) else (b.getD p 0, p + 1, 0) := by unfold rdByte; rw [if_neg (by simp)]
theorem rdUpto_z (b : List Nat) (p most : Nat) : rdUpto b p 0 most = if (scan (b.drop p)).2.2 ≠ 0 then (0, p, (((scan (b.drop p)).2.2 : Nat) : Int)) else if most < (scan (b.drop p)).1 then (0, p, 12) else ((scan (b.drop p)).1, p + (scan (b.drop p)).2.1, 0) := by
  unfold rdUpto; rw [if_neg (by simp)]
theorem rdRaw_z (b : List Nat) (p : Nat) (n : Int) : rdRaw b p 0 n = if n < 0 then ([], p, 11) else if ((b.length - p : Nat) : Int) < n then ([], p, 10) else ((b.drop p).take n.toNat, p + n.toNat, 0) := by
  unfold rdRaw; rw [if_neg (by simp)]
theorem rdBytes_z (b : List Nat) (p : Nat) (most : Int) : rdBytes b p 0 most = if (scan (b.drop p)).2.2 ≠ 0 then ([], p, (((scan (b.drop p)).2.2 : Nat) : Int)) else if most < 0 ∨ most < (((scan (b.drop p)).1 : Nat) : Int) then ([], p, 12)
  else if b.length - p - (scan (b.drop p)).2.1 < (scan (b.drop p)).1 then ([], p, 10) else rdRaw b (p + (scan (b.drop p)).2.1) 0 (((scan (b.drop p)).1 : Nat) : Int) := by
  unfold rdBytes; rw [if_neg (by simp)]
theorem rdByte_more (b T : List Nat) (p : Nat) (hp : p ≤ b.length) (h : (rdByte b p 0).2.2 = 0) : (rdByte (b ++ T) p 0).2 = (rdByte b p 0).2 := by
  rw [rdByte_z] at h
  rw [rdByte_z, rdByte_z]
  by_cases h1 : p = b.length
  · rw [if_pos h1] at h; simp at h
  · rw [if_neg h1, if_neg (by rw [List.length_append]; omega)]
theorem rdUpto_more (b T : List Nat) (p most : Nat) (hp : p ≤ b.length) (h : (rdUpto b p 0 most).2.2 = 0) : (rdUpto (b ++ T) p 0 most) = (rdUpto b p 0 most) := by
  rw [rdUpto_z] at h
  rw [rdUpto_z, rdUpto_z, drop_more b T p hp]
  by_cases h1 : (scan (b.drop p)).2.2 = 0
  · rw [scan_more _ T h1]
  · rw [if_pos h1] at h; simp at h; exact absurd h h1
theorem rdRaw_more (b T : List Nat) (p : Nat) (n : Int) (hp : p ≤ b.length) (h : (rdRaw b p 0 n).2.2 = 0) : (rdRaw (b ++ T) p 0 n).2 = (rdRaw b p 0 n).2 := by
  rw [rdRaw_z] at h
  rw [rdRaw_z, rdRaw_z]
  by_cases h1 : n < 0
  · rw [if_pos h1] at h; simp at h
  · rw [if_neg h1] at h
    rw [if_neg h1, if_neg h1]
    by_cases h2 : ((b.length - p : Nat) : Int) < n
    · rw [if_pos h2] at h; simp at h
    · rw [if_neg h2, if_neg (by rw [List.length_append]; omega)]
theorem rdBytes_more (b T : List Nat) (hz : ∀ z ∈ b, z < 256) (p : Nat) (most : Int) (hp : p ≤ b.length) (h : (rdBytes b p 0 most).2.2 = 0) : (rdBytes (b ++ T) p 0 most).2 = (rdBytes b p 0 most).2 := by
  rw [rdBytes_z] at h
  rw [rdBytes_z, rdBytes_z, drop_more b T p hp]
  by_cases h1 : (scan (b.drop p)).2.2 = 0
  · rw [scan_more _ T h1]
    have h4 := scan_one (b.drop p) (scan (b.drop p)).1 (scan (b.drop p)).2.1 (fun z hz' => hz z (List.mem_of_mem_drop hz')) (by rw [← h1])
    have h5 := h4.2.2.1
    rw [List.length_drop] at h5
    generalize scan (b.drop p) = s at *
    have h1' : ¬ s.2.2 ≠ 0 := by simp [h1]
    rw [if_neg h1'] at h
    rw [if_neg h1', if_neg h1']
    by_cases h2 : most < 0 ∨ most < ((s.1 : Nat) : Int)
    · rw [if_pos h2] at h; simp at h
    · rw [if_neg h2] at h
      rw [if_neg h2, if_neg h2]
      by_cases h3 : b.length - p - s.2.1 < s.1
      · rw [if_pos h3] at h; simp at h
      · rw [if_neg h3] at h
        rw [if_neg h3, if_neg (by rw [List.length_append]; omega)]
        exact rdRaw_more b T _ _ (by omega) h
  · rw [if_pos h1] at h; simp at h; exact absurd h h1

end Go.Proofs.Ythdlilekilkogaa
