/-
  WHAT IS READ BACK OF WHAT WAS WRITTEN.
-/
import Derived.Test.YtciogmenoighoaaRBytes
import Derived.Test.YtciogmenoighoaaWriter
namespace Go.Proofs.Ytciogmenoighoaa
open Go.RowKit

theorem unfold_fold (z : Int) (h0 : -9223372036854775808 ≤ z) (h1 : z ≤ 9223372036854775807) : unfold (fold z) = z := by
  unfold unfold fold
  split <;> split <;> omega
theorem rdRaw_ok (b : List Nat) (p n : Nat) (h : n ≤ b.length - p) : rdRaw b p 0 (n : Int) = ((b.drop p).take n, p + n, 0) := by
  unfold rdRaw
  rw [if_neg (by simp), if_neg (by omega), if_neg (by omega)]
  rfl
theorem rdByte_at (b : List Nat) (p z : Nat) (R : List Nat) (h : b.drop p = z :: R) : rdByte b p 0 = (z, p + 1, 0) := by
  have hl : p < b.length := by
    have := congrArg List.length h
    rw [List.length_drop, List.length_cons] at this
    omega
  have hg : b.getD p 0 = z := by
    rw [List.drop_eq_getElem_cons hl] at h
    rw [List.getD_eq_getElem?_getD, List.getElem?_eq_getElem hl]
    exact (List.cons.inj h).1
  unfold rdByte
  rw [if_neg (by simp), if_neg (by omega), hg]
theorem scan_at (n : Nat) (hn : n < 18446744073709551616) (R : List Nat) : scan (uint 10 n ++ R) = (n, (uint 10 n).length, 0) := by
  have h := scan_uint R 9 0 0 n (by omega) (by simpa using hn) (by omega)
  simpa [scan] using h
theorem rdUpto_at (b : List Nat) (p n most : Nat) (R : List Nat) (hn : n < 18446744073709551616) (hm : n ≤ most) (h : b.drop p = uint 10 n ++ R) : rdUpto b p 0 most = (n, p + (uint 10 n).length, 0) := by
  unfold rdUpto
  rw [h, scan_at n hn R]
  simp only [ne_eq, not_true, if_false]
  rw [if_neg (by omega)]
theorem rdRaw_at (b : List Nat) (p : Nat) (bs R : List Nat) (h : b.drop p = bs ++ R) : rdRaw b p 0 (bs.length : Int) = (bs, p + bs.length, 0) := by
  have hl := congrArg List.length h
  rw [List.length_drop, List.length_append] at hl
  rw [rdRaw_ok b p bs.length (by omega), h, List.take_left]
theorem rdBytes_at (b : List Nat) (p : Nat) (bs R : List Nat) (hn : bs.length < 18446744073709551616) (h : b.drop p = uint 10 bs.length ++ bs ++ R) : rdBytes b p 0 (bs.length : Int) = (bs, p + (uint 10 bs.length ++ bs).length, 0) := by
  have hl := congrArg List.length h
  rw [List.length_drop, List.length_append, List.length_append] at hl
  have h2 : b.drop (p + (uint 10 bs.length).length) = bs ++ R := by
    rw [← List.drop_drop, h, List.append_assoc, List.drop_left]
  unfold rdBytes
  rw [h, List.append_assoc, scan_at bs.length hn]
  simp only [ne_eq, not_true, if_false]
  rw [if_neg (by omega), if_neg (by omega), rdRaw_at b _ bs R h2, List.length_append]
  congr 2
  omega
end Go.Proofs.Ytciogmenoighoaa
