import Derived.Test.YtglodmmmcdjgcaaJ11
import Derived.Test.YtglodmmmcdjgcaaJ10
import Derived.Deep.DeepCutAuto
import Derived.Test.YtglodmmmcdjgcaaJ01
/-
  THE WALKS OF wellFormed, sound.
-/
namespace Go.Proofs.Ytglodmmmcdjgcaa.Kk
open Go.RowKit Go.Sort

/-- what a call that only grows the heap leaves -/
theorem grew_of {w w' : World} (h : ∃ q os, w' = grow (w.drewN q) os) : Grew w w' := h

theorem cell_new (w : World) (cs : Array Value) (T : TypeId) (j : Nat) (v : Value) (h : cs[j]? = some v) : (w.alloc (.cells cs T)).cell? ⟨w.heap.size, j, none⟩ = some v := by
  have := heap_alloc_new (w := w) (.cells cs T) _ rfl
  simp only [World.cell?, this]; exact h
end Go.Proofs.Ytglodmmmcdjgcaa.Kk
/-
  THE WALK OF THE DOCUMENT's Check.
-/
namespace Go.Proofs.Ytglodmmmcdjgcaa.Kk
open Go.RowKit Go.Sort

end Go.Proofs.Ytglodmmmcdjgcaa.Kk
/-
  THE WALK OF THE DOCUMENT's Compare.
-/
namespace Go.Proofs.Ytglodmmmcdjgcaa.Kk
open Go.RowKit Go.Sort


end Go.Proofs.Ytglodmmmcdjgcaa.Kk
