/-
  THE LIBRARY's CONTRACTS OF sort.SearchInts AND slices.Sort AT THIS DUMP: tables of numbers and theorems of closed facts, by program.
-/
import Derived.Shelf.SlLaysO
import Derived.Shelf.SlSorted.Search
import Derived.Shelf.SortM.Plain
import Derived.Ground.SlgmProg
import Derived.Test.YtmelbebjcdkbdaaProg
namespace Go.Proofs.Ytmelbebjcdkbdaa
open Go.Shelf
def laysSearchI_ren : Go.Shelf.Ren := ⟨fun | 14 => 11 | 22 => 14 | 16 => 13 | n => n, fun | 28 => 23 | 3 => 3 | 0 => 0 | 35 => 39 | 4 => 4 | 38 => 42 | n => n, fun | n => n⟩
theorem laysSearchI : Go.Proofs.SlLaysO.n14 Try.prog laysSearchI_ren := {
  mixed := by kernel_rfl
  f14 := Try.func11.trans (congrArg some (by kernel_rfl))
  f16 := Try.func13.trans (congrArg some (by kernel_rfl))
  f22 := Try.func14.trans (congrArg some (by kernel_rfl))
  t0 := Try.underlying0
  a0 := Try.isAgg0
  z0 := Try.sizeOf0
  v0 := Try.zeroValue0
  t3 := Try.underlying3
  a3 := Try.isAgg3
  z3 := Try.sizeOf3
  v3 := Try.zeroValue3
  t4 := Try.underlying4
  a4 := Try.isAgg4
  z4 := Try.sizeOf4
  v4 := Try.zeroValue4
  t28 := Try.underlying23
  a28 := Try.isAgg23
  z28 := Try.sizeOf23
  v28 := Try.zeroValue23
  t35 := Try.underlying39
  a35 := Try.isAgg39
  z35 := Try.sizeOf39
  v35 := Try.zeroValue39
  t38 := Try.underlying42
  a38 := Try.isAgg42
  z38 := Try.sizeOf42
  v38 := Try.zeroValue42 }
def laysSortI_ren : Go.Shelf.Ren := ⟨fun | 5 => 12 | 8 => 16 | 7 => 15 | 19 => 26 | 20 => 27 | 10 => 17 | 11 => 18 | 12 => 19 | 13 => 20 | 14 => 21 | 15 => 22 | 16 => 23 | 17 => 24 | 18 => 25 | 30 => 28 | 31 => 29 | 32 => 30 | 33 => 31 | 34 => 32 | 35 => 33 | 40 => 34 | n => n, fun | 23 => 23 | 25 => 3 | 3 => 3 | 32 => 42 | 22 => 23 | 0 => 0 | 44 => 53 | 46 => 55 | 4 => 4 | 36 => 45 | 35 => 44 | 41 => 50 | 5 => 5 | 9 => 9 | 53 => 56 | 57 => 60 | 63 => 62 | 64 => 63 | n => n, fun | n => n⟩
theorem laysSortI : Go.Proofs.SlLaysM.n5 Try.prog laysSortI_ren := {
  mixed := by kernel_rfl
  f5 := ⟨Try.f12.name, by decide, Try.func12.trans (congrArg some (by kernel_rfl))⟩
  f7 := ⟨Try.f15.name, by decide, Try.func15.trans (congrArg some (by kernel_rfl))⟩
  f8 := Try.func16.trans (congrArg some (by kernel_rfl))
  f10 := ⟨Try.f17.name, by decide, Try.func17.trans (congrArg some (by kernel_rfl))⟩
  f11 := ⟨Try.f18.name, by decide, Try.func18.trans (congrArg some (by kernel_rfl))⟩
  f12 := ⟨Try.f19.name, by decide, Try.func19.trans (congrArg some (by kernel_rfl))⟩
  f13 := ⟨Try.f20.name, by decide, Try.func20.trans (congrArg some (by kernel_rfl))⟩
  f14 := ⟨Try.f21.name, by decide, Try.func21.trans (congrArg some (by kernel_rfl))⟩
  f15 := ⟨Try.f22.name, by decide, Try.func22.trans (congrArg some (by kernel_rfl))⟩
  f16 := ⟨Try.f23.name, by decide, Try.func23.trans (congrArg some (by kernel_rfl))⟩
  f17 := ⟨Try.f24.name, by decide, Try.func24.trans (congrArg some (by kernel_rfl))⟩
  f18 := ⟨Try.f25.name, by decide, Try.func25.trans (congrArg some (by kernel_rfl))⟩
  f19 := Try.func26.trans (congrArg some (by kernel_rfl))
  f20 := Try.func27.trans (congrArg some (by kernel_rfl))
  f30 := ⟨Try.f28.name, by decide, Try.func28.trans (congrArg some (by kernel_rfl))⟩
  f31 := Try.func29.trans (congrArg some (by kernel_rfl))
  f32 := Try.func30.trans (congrArg some (by kernel_rfl))
  f33 := ⟨Try.f31.name, by decide, Try.func31.trans (congrArg some (by kernel_rfl))⟩
  f34 := ⟨Try.f32.name, by decide, Try.func32.trans (congrArg some (by kernel_rfl))⟩
  f35 := ⟨Try.f33.name, by decide, Try.func33.trans (congrArg some (by kernel_rfl))⟩
  f40 := ⟨Try.f34.name, by decide, Try.func34.trans (congrArg some (by kernel_rfl))⟩
  t0 := Try.underlying0
  a0 := Try.isAgg0
  z0 := Try.sizeOf0
  v0 := Try.zeroValue0
  t3 := Try.underlying3
  a3 := Try.isAgg3
  z3 := Try.sizeOf3
  v3 := Try.zeroValue3
  t4 := Try.underlying4
  a4 := Try.isAgg4
  z4 := Try.sizeOf4
  v4 := Try.zeroValue4
  t5 := Try.underlying5
  a5 := Try.isAgg5
  z5 := Try.sizeOf5
  v5 := Try.zeroValue5
  t9 := Try.underlying9
  a9 := Try.isAgg9
  z9 := Try.sizeOf9
  v9 := Try.zeroValue9
  t22 := Try.underlying23
  a22 := Try.isAgg23
  z22 := Try.sizeOf23
  v22 := Try.zeroValue23
  t23 := Try.underlying23
  a23 := Try.isAgg23
  z23 := Try.sizeOf23
  v23 := Try.zeroValue23
  t25 := Try.underlying3
  a25 := Try.isAgg3
  z25 := Try.sizeOf3
  v25 := Try.zeroValue3
  t32 := Try.underlying42
  a32 := Try.isAgg42
  z32 := Try.sizeOf42
  v32 := Try.zeroValue42
  t35 := Try.underlying44
  a35 := Try.isAgg44
  z35 := Try.sizeOf44
  v35 := Try.zeroValue44
  t36 := Try.underlying45
  a36 := Try.isAgg45
  z36 := Try.sizeOf45
  v36 := Try.zeroValue45
  t41 := Try.underlying50
  a41 := Try.isAgg50
  z41 := Try.sizeOf50
  v41 := Try.zeroValue50
  t44 := Try.underlying53
  a44 := Try.isAgg53
  z44 := Try.sizeOf53
  v44 := Try.zeroValue53
  t46 := Try.underlying55
  a46 := Try.isAgg55
  z46 := Try.sizeOf55
  v46 := Try.zeroValue55
  t53 := Try.underlying56
  a53 := Try.isAgg56
  z53 := Try.sizeOf56
  v53 := Try.zeroValue56
  t57 := Try.underlying60
  a57 := Try.isAgg60
  z57 := Try.sizeOf60
  v57 := Try.zeroValue60
  t63 := Try.underlying62
  a63 := Try.isAgg62
  z63 := Try.sizeOf62
  v63 := Try.zeroValue62
  t64 := Try.underlying63
  a64 := Try.isAgg63
  z64 := Try.sizeOf63
  v64 := Try.zeroValue63 }
end Go.Proofs.Ytmelbebjcdkbdaa
