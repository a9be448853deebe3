/-
  THE WALKS OF Check, num.
-/
import Derived.Test.YtbmohlkcmhhpgaaGreatKBase
namespace Go.Proofs.YtbmohlkcmhhpgaaGreat
open Go.RowKit Go.Sort

def errOf (b : Bool) (e : Int) : Int := if b then 0 else e

theorem check_any (w : World) (k1 k2 : Int) :
    Calls Tryz.prog 72 #[.agg #[.int .i64 k1, .int .i64 k2]] w fun e w' => e = .returned (.int .i64 (errOf (isKey (k1, k2)) 20)) ∧ ∃ q os, w' = grow (w.drewN q) os := by
  have HE : Hid (∀ b : Bool, isKey (k1, k2) = b → errOf (isKey (k1, k2)) 20 = if b then 0 else 20) := fun b h => by rw [h]; rfl
  go_enter Tryz.func72, Tryz.ntmps72
  by_cases h0 : k1 < 0
  · go_wp2
    go_ret
    refine ⟨by rw [HE.out false (by simp [isKey]; omega)]; rfl, Grew.alloc (Grew.refl _) _⟩
  · have h0' : decide (k1 < 0) = false := by simpa using h0
    by_cases h1 : 65535 < k1
    · go_wp2
      go_ret
      refine ⟨by rw [HE.out false (by simp [isKey]; omega)]; rfl, Grew.alloc (Grew.refl _) _⟩
    · have h1' : decide (65535 < k1) = false := by simpa using h1
      go_wp2
      go_ret
      refine ⟨by rw [HE.out true (by simp [isKey]; omega)]; rfl, Grew.alloc (Grew.refl _) _⟩


end Go.Proofs.YtbmohlkcmhhpgaaGreat
