import Derived.Test.YtglodmmmcdjgcaaJ04
import Derived.Test.YtglodmmmcdjgcaaJ16
/-
  THE WALKS OF THE DOCUMENT's Hash, Partition.
-/
namespace Go.Proofs.Ytglodmmmcdjgcaa.Kk
open Go.RowKit Go.Sort


end Go.Proofs.Ytglodmmmcdjgcaa.Kk
/-
  THE WALK OF THE DOCUMENT's FromBytes.
-/
namespace Go.Proofs.Ytglodmmmcdjgcaa.Kk
open Go.RowKit Go.Sort

end Go.Proofs.Ytglodmmmcdjgcaa.Kk
/-
  THE WALK OF THE DOCUMENT's Bytes; bytes there and back.
-/
namespace Go.Proofs.Ytglodmmmcdjgcaa.Kk
open Go.RowKit Go.Sort

theorem below_grown' {w w1 : World} {row : Option Nat} {B : Nat} (h : w.grownBy w1 row) (hr : ∀ k, row = some k → B ≤ k) (hB : B ≤ w.heap.size) : Below B w w1 :=
  ⟨h.os, h.tape, h.output, h.size, fun k hk => h.block k (by omega) (fun e => by have := hr k e.symm; omega)⟩

theorem grown_alloc' {w : World} {o : Obj} {row : Option Nat} (w1 : World) (h : (w.alloc o).grownBy w1 row) : w.grownBy w1 row :=
  ⟨h.os, h.tape, h.output, Nat.le_trans (by simp) h.size, fun k hk hne => (h.block k (by simp; omega) hne).trans (Below.heap_alloc w o k hk)⟩



end Go.Proofs.Ytglodmmmcdjgcaa.Kk
