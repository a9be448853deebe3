/-
  THE WALK OF THE DOCUMENT's Longest.
-/
import Derived.Test.YtkpggbjibngplaaLRefD
import Derived.Deep.QuietTactic
import Derived.BigQuiet
namespace Go.Proofs.Ytkpggbjibngplaa
open Go.RowKit Go.Sort

theorem below_drewK (B : Nat) (W : World) (q : Nat) : Below B W (W.drewN q) := ⟨rfl, rfl, rfl, Nat.le_refl _, fun _ _ => rfl⟩


end Go.Proofs.Ytkpggbjibngplaa
