import Derived.Test.YtglodmmmcdjgcaaJ14
import Derived.Test.YtglodmmmcdjgcaaJ09
import Derived.Test.YtglodmmmcdjgcaaJ07
/-
  THE WALK OF Encode.
-/
namespace Go.Proofs.Ytglodmmmcdjgcaa.Kk
open Go.RowKit Go.Sort

structure WF (t : Tp) : Prop where
  p0 : 0 ≤ t.proc
  p1 : t.proc < 64
  a : t.args.length ≤ 16
  r : t.reads.length ≤ 16
  w : t.writes.length ≤ 16
  rr : Rise t.reads
  rw : Rise t.writes
theorem wf_of {t : Tp} (h : formN t = 0) : WF t := by
  unfold formN at h
  split at h
  · cases h
  · split at h
    · cases h
    · split at h
      · cases h
      · split at h
        · cases h
        · split at h
          · rename_i h1 h2 h3 h4 h5
            exact ⟨by omega, by omega, by omega, by omega, by omega, h5.1, h5.2⟩
          · cases h
theorem WF.form {t : Tp} (h : WF t) : formN t = 0 := by
  unfold formN
  rw [if_neg (by have := h.p0; have := h.p1; omega), if_neg (by have := h.a; omega), if_neg (by have := h.r; omega), if_neg (by have := h.w; omega), if_pos ⟨h.rr, h.rw⟩]
theorem WF.length {t : Tp} (h : WF t) : (txN t).length ≤ 600 := by
  have a := h.a; have r := h.r; have w := h.w
  have h1 := uint_length 10 t.proc.toNat
  have h2 := uint_length 10 t.args.length
  have h3 := uint_length 10 t.reads.length
  have h4 := uint_length 10 t.writes.length
  have h5 := argsT_length t.args
  have h6 := keysT_length t.reads
  have h7 := keysT_length t.writes
  unfold argsT at h5
  simp only [txN, argsN, setN, List.length_append]
  omega
theorem txs_length {Ts : List Tp} (h : ∀ t ∈ Ts, WF t) : (Ts.flatMap txN).length ≤ Ts.length * 600 := by
  induction Ts with
  | nil => simp
  | cons t Ts ih =>
    have h1 := (h t (by simp)).length
    have h2 := ih (fun x hx => h x (by simp [hx]))
    simp only [List.flatMap_cons, List.length_append, List.length_cons]
    omega
theorem td_take {Ts : List Tp} {k : Nat} (h : k < Ts.length) : Ts.take (k + 1) = Ts.take k ++ [td Ts k] := by
  rw [List.take_succ_eq_append_getElem h]
  simp [td, List.getD_eq_getElem?_getD, List.getElem?_eq_getElem h]
def EncPost (w : World) (Ts : List Tp) (e : Ending) (w' : World) : Prop :=
  ((eachN formN Ts).2 ≠ 0 ∧ e = .returned (.tuple #[.slice none 0 0, .int .i64 (eachN formN Ts).2]) ∧ Below w.heap.size w w') ∨
  ((eachN formN Ts).2 = 0 ∧ ∃ g, e = .returned (.tuple #[.slice (some ⟨g, 0, none⟩) (batN Ts).length (batN Ts).length, .int .i64 0]) ∧ RowAt w' g (batN Ts) ∧ w.heap.size ≤ g ∧ w'.heap.size = g + 1 ∧ Below w.heap.size w w')

end Go.Proofs.Ytglodmmmcdjgcaa.Kk
/-
  THE WALKS OF codec.Reader's METHODS: Bytes, End; codec.Read.
-/
namespace Go.Proofs.Ytglodmmmcdjgcaa
open Go.RowKit

def rdBytes (b : List Nat) (p : Nat) (e : Int) (most : Int) : List Nat × Nat × Int :=
  if e ≠ 0 then ([], p, e) else if (scan (b.drop p)).2.2 ≠ 0 then ([], p, (((scan (b.drop p)).2.2 : Nat) : Int)) else if most < 0 ∨ most < (((scan (b.drop p)).1 : Nat) : Int) then ([], p, 12)
  else if b.length - p - (scan (b.drop p)).2.1 < (scan (b.drop p)).1 then ([], p, 10) else rdRaw b (p + (scan (b.drop p)).2.1) 0 (((scan (b.drop p)).1 : Nat) : Int)


end Go.Proofs.Ytglodmmmcdjgcaa
/-
  WHAT IS READ BACK OF WHAT WAS WRITTEN.
-/
namespace Go.Proofs.Ytglodmmmcdjgcaa
open Go.RowKit

theorem unfold_fold (z : Int) (h0 : -9223372036854775808 ≤ z) (h1 : z ≤ 9223372036854775807) : unfold (fold z) = z := by
  unfold unfold fold
  split <;> split <;> omega
theorem rdRaw_ok (b : List Nat) (p n : Nat) (h : n ≤ b.length - p) : rdRaw b p 0 (n : Int) = ((b.drop p).take n, p + n, 0) := by
  unfold rdRaw
  rw [if_neg (by simp), if_neg (by omega), if_neg (by omega)]
  rfl
theorem rdByte_at (b : List Nat) (p z : Nat) (R : List Nat) (h : b.drop p = z :: R) : rdByte b p 0 = (z, p + 1, 0) := by
  have hl : p < b.length := by
    have := congrArg List.length h
    rw [List.length_drop, List.length_cons] at this
    omega
  have hg : b.getD p 0 = z := by
    rw [List.drop_eq_getElem_cons hl] at h
    rw [List.getD_eq_getElem?_getD, List.getElem?_eq_getElem hl]
    exact (List.cons.inj h).1
  unfold rdByte
  rw [if_neg (by simp), if_neg (by omega), hg]
theorem scan_at (n : Nat) (hn : n < 18446744073709551616) (R : List Nat) : scan (uint 10 n ++ R) = (n, (uint 10 n).length, 0) := by
  have h := scan_uint R 9 0 0 n (by omega) (by simpa using hn) (by omega)
  simpa [scan] using h
theorem rdUpto_at (b : List Nat) (p n most : Nat) (R : List Nat) (hn : n < 18446744073709551616) (hm : n ≤ most) (h : b.drop p = uint 10 n ++ R) : rdUpto b p 0 most = (n, p + (uint 10 n).length, 0) := by
  unfold rdUpto
  rw [h, scan_at n hn R]
  simp only [ne_eq, not_true, if_false]
  rw [if_neg (by omega)]
theorem rdRaw_at (b : List Nat) (p : Nat) (bs R : List Nat) (h : b.drop p = bs ++ R) : rdRaw b p 0 (bs.length : Int) = (bs, p + bs.length, 0) := by
  have hl := congrArg List.length h
  rw [List.length_drop, List.length_append] at hl
  rw [rdRaw_ok b p bs.length (by omega), h, List.take_left]
theorem rdBytes_at (b : List Nat) (p : Nat) (bs R : List Nat) (hn : bs.length < 18446744073709551616) (h : b.drop p = uint 10 bs.length ++ bs ++ R) : rdBytes b p 0 (bs.length : Int) = (bs, p + (uint 10 bs.length ++ bs).length, 0) := by
  have hl := congrArg List.length h
  rw [List.length_drop, List.length_append, List.length_append] at hl
  have h2 : b.drop (p + (uint 10 bs.length).length) = bs ++ R := by
    rw [← List.drop_drop, h, List.append_assoc, List.drop_left]
  unfold rdBytes
  rw [h, List.append_assoc, scan_at bs.length hn]
  simp only [ne_eq, not_true, if_false]
  rw [if_neg (by omega), if_neg (by omega), rdRaw_at b _ bs R h2, List.length_append]
  congr 2
  omega
end Go.Proofs.Ytglodmmmcdjgcaa
