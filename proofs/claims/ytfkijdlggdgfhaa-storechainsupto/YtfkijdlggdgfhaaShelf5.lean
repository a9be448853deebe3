/-
  THE LIBRARY's CONTRACTS OF sort.Search AND slices.Delete AT THIS DUMP: tables of numbers and theorems of closed facts, by program.
-/
import Derived.Shelf.SlLaysE
import Derived.Shelf.SlLaysO
import Derived.Shelf.SlicesE.Delete
import Derived.Shelf.SlSorted.Search
import Derived.Test.YtfkijdlggdgfhaaProg
namespace Go.Proofs.Ytfkijdlggdgfhaa
open Go.Shelf
def laysSearch_ren : Go.Shelf.Ren := ⟨fun | 16 => 53 | n => n, fun | 3 => 3 | 35 => 115 | 4 => 4 | 38 => 132 | n => n, fun | n => n⟩
theorem laysSearch : Go.Proofs.SlLaysO.n16 Try.prog laysSearch_ren := {
  mixed := by kernel_rfl
  f16 := Try.func53.trans (congrArg some (by kernel_rfl))
  t3 := Try.underlying3
  a3 := Try.isAgg3
  z3 := Try.sizeOf3
  v3 := Try.zeroValue3
  t4 := Try.underlying4
  a4 := Try.isAgg4
  z4 := Try.sizeOf4
  v4 := Try.zeroValue4
  t35 := Try.underlying115
  a35 := Try.isAgg115
  z35 := Try.sizeOf115
  v35 := Try.zeroValue115
  t38 := Try.underlying132
  a38 := Try.isAgg132
  z38 := Try.sizeOf132
  v38 := Try.zeroValue132 }
def laysDelete_ren : Go.Shelf.Ren := ⟨fun | 45 => 63 | n => n, fun | 22 => 98 | 23 => 83 | 3 => 3 | 4 => 4 | 0 => 0 | n => n, fun | n => n⟩
theorem laysDelete : Go.Proofs.SlLaysE.n45 Try.prog laysDelete_ren := {
  mixed := by kernel_rfl
  f45 := ⟨Try.f63.name, by decide, Try.func63.trans (congrArg some (by kernel_rfl))⟩
  t0 := Try.underlying0
  a0 := Try.isAgg0
  z0 := Try.sizeOf0
  v0 := Try.zeroValue0
  t3 := Try.underlying3
  a3 := Try.isAgg3
  z3 := Try.sizeOf3
  v3 := Try.zeroValue3
  t4 := Try.underlying4
  a4 := Try.isAgg4
  z4 := Try.sizeOf4
  v4 := Try.zeroValue4
  t22 := Try.underlying98
  a22 := Try.isAgg98
  z22 := Try.sizeOf98
  v22 := Try.zeroValue98
  a23 := Try.isAgg83
  z23 := Try.sizeOf83 }
end Go.Proofs.Ytfkijdlggdgfhaa
