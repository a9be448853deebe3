/-
  THE LIBRARY's TABLE OF POWERS OF TEN; codec.Digits.
-/
import Derived.Test.YtlabofafmcbfmaaGreatDoorDec
import Derived.Test.YtlabofafmcbfmaaGreatDoorMem
import Derived.Lib.ItoaMem
import Derived.Test.YtlabofafmcbfmaaGreatDoorShelf
namespace Go.Proofs.YtlabofafmcbfmaaGreatDoor
open Go.RowKit Go.Shelf

theorem byteList (s : ByteArray) : s.toList = s.data.toList := ByteArray.toList_eq s
/-- what the library's table holds -/
def DigVars (w : World) : Prop := Lib.TabIs Tryz.prog w "internal/strconv.uint64pow10" .u64 Lib.pow10Tab
theorem var_lt {P : Program} {w : World} {n : String} {cs : Array Value} {g : Nat} (hg : P.globalNamed n = some g) (h : w.var? P n = some cs) : g < w.heap.size := by
  unfold World.var? at h
  rw [hg, Option.bind_some] at h
  by_cases hlt : g < w.heap.size
  · exact hlt
  · have hn : w.heap[g]? = none := Array.getElem?_eq_none_iff.2 (by omega)
    rw [hn] at h; cases h
theorem var_kept {w w1 : World} {n : String} {cs : Array Value} {g : Nat} (hg : Tryz.prog.globalNamed n = some g) (h : w.var? Tryz.prog n = some cs) (hb : Below w.heap.size w w1) : w1.var? Tryz.prog n = some cs :=
  var?_below hb hg (var_lt hg h) h
theorem gPow : Tryz.prog.globalNamed "internal/strconv.uint64pow10" = some 7 := by kernel_rfl
theorem DigVars.kept {w w1 : World} (h : DigVars w) (hb : Below w.heap.size w w1) : DigVars w1 := var_kept gPow h hb

theorem grow_below (w : World) (k : Nat) (os : Array Obj) : Below w.heap.size w (Sort.grow (w.drewN k) os) :=
  ⟨rfl, rfl, rfl, by simp [Sort.grow], fun i hi => by simp [Sort.grow]; rw [Array.getElem?_append_left hi]⟩

theorem formatInt_any (w : World) (n : Int) (h0 : -9223372036854775808 ≤ n) (h1 : n ≤ 9223372036854775807) (hv : DigVars w) :
    Calls Tryz.prog 79 #[.int .i64 n, .int .i64 10] w fun e w' => e = .returned (.string ⟨(Lib.itoa n).toArray⟩) ∧ Below w.heap.size w w' := by
  refine (show Calls Tryz.prog 79 #[.int .i64 n, .int .i64 10] w _ from Any.strconv_FormatInt_10 laysM173 n h0 h1 w hv).mono ?_
  rintro e w' ⟨rfl, k, os, rfl⟩
  exact ⟨rfl, grow_below w k os⟩

end Go.Proofs.YtlabofafmcbfmaaGreatDoor
