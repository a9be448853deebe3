/-
  THE WALK OF sound.
-/
import Derived.Test.YtbmohlkcmhhpgaaGreatKList
namespace Go.Proofs.YtbmohlkcmhhpgaaGreat
open Go.RowKit Go.Sort

theorem all_take (L : List K) (k : Nat) (h : (L.take k).all isKey = true) (hk : k < L.length) (h2 : isKey (kd L k) = true) : (L.take (k + 1)).all isKey = true := by
  rw [take_kd L k hk, List.all_append, h]; simp [h2]
theorem all_false {L : List K} {k : Nat} (hk : k < L.length) (h : isKey (kd L k) = false) : L.all isKey = false := by
  rw [List.all_eq_false]
  exact ⟨kd L k, kd_mem hk, by rw [h]; decide⟩


end Go.Proofs.YtbmohlkcmhhpgaaGreat
