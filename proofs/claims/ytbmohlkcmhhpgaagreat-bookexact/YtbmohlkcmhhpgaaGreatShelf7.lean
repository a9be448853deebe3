/-
  THE LIBRARY's CONTRACT OF slices.Reverse AT THIS DUMP: tables of numbers and theorems of closed facts, by program.
-/
import Derived.Shelf.SlicesQ.Reverse
import Derived.Ground.SlgnProg
import Derived.Test.YtbmohlkcmhhpgaaGreatProg
namespace Go.Proofs.YtbmohlkcmhhpgaaGreat
open Go.Shelf
def laysRev_ren : Go.Shelf.Ren := ⟨fun | 35 => 52 | n => n, fun | 22 => 78 | 23 => 99 | 3 => 3 | 4 => 4 | 0 => 0 | n => n, fun | n => n⟩
theorem laysRev : Go.Proofs.SlLaysE0.n35 Tryz.prog laysRev_ren := {
  mixed := by kernel_rfl
  f35 := ⟨Tryz.f52.name, by decide, Tryz.func52.trans (congrArg some (by kernel_rfl))⟩
  t0 := Tryz.underlying0
  a0 := Tryz.isAgg0
  z0 := Tryz.sizeOf0
  v0 := Tryz.zeroValue0
  t3 := Tryz.underlying3
  a3 := Tryz.isAgg3
  z3 := Tryz.sizeOf3
  v3 := Tryz.zeroValue3
  t4 := Tryz.underlying4
  a4 := Tryz.isAgg4
  z4 := Tryz.sizeOf4
  v4 := Tryz.zeroValue4
  t22 := Tryz.underlying78
  a22 := Tryz.isAgg78
  z22 := Tryz.sizeOf78
  v22 := Tryz.zeroValue78 }
end Go.Proofs.YtbmohlkcmhhpgaaGreat
