import Derived.Test.YtbmohlkcmhhpgaaGreatKChk
import Derived.Test.YtbmohlkcmhhpgaaGreatKCmp
/-
  THE WALK OF THE DOCUMENT's Check.
-/
namespace Go.Proofs.YtbmohlkcmhhpgaaGreat
open Go.RowKit Go.Sort

theorem refCheck_any (w : World) (k1 k2 : Int) :
    Calls Tryz.prog 74 #[.agg #[.int .i64 k1, .int .i64 k2]] w fun e w' => e = .returned (.int .i64 (errOf (isKey (k1, k2)) 20)) ∧ ∃ q os, w' = grow (w.drewN q) os := by
  have HE : Hid (∀ b : Bool, isKey (k1, k2) = b → errOf (isKey (k1, k2)) 20 = if b then 0 else 20) := fun b h => by rw [h]; rfl
  go_enter Tryz.func74, Tryz.ntmps74
  by_cases h0 : k1 < 0
  · go_wp2
    go_ret
    refine ⟨by rw [HE.out false (by simp [isKey]; omega)]; rfl, Grew.alloc (Grew.refl _) _⟩
  · have h0' : decide (k1 < 0) = false := by simpa using h0
    by_cases h1 : 65535 < k1
    · go_wp2
      go_ret
      refine ⟨by rw [HE.out false (by simp [isKey]; omega)]; rfl, Grew.alloc (Grew.refl _) _⟩
    · have h1' : decide (65535 < k1) = false := by simpa using h1
      go_wp2
      go_ret
      refine ⟨by rw [HE.out true (by simp [isKey]; omega)]; rfl, Grew.alloc (Grew.refl _) _⟩

end Go.Proofs.YtbmohlkcmhhpgaaGreat
/-
  THE WALK OF THE DOCUMENT's Compare.
-/
namespace Go.Proofs.YtbmohlkcmhhpgaaGreat
open Go.RowKit Go.Sort

theorem refCompare_any (w : World) (a1 a2 b1 b2 : Int) :
    Calls Tryz.prog 63 #[.agg #[.int .i64 a1, .int .i64 a2], .agg #[.int .i64 b1, .int .i64 b2]] w fun e w' => e = .returned (.int .i64 (cmp (a1, a2) (b1, b2))) ∧ ∃ q os, w' = grow (w.drewN q) os := by
  by_cases h1 : a1 < b1
  · have HR : Hid (cmp (a1, a2) (b1, b2) = -1) := by rw [Hid]; exact cmp_lt (by rw [lt_iff]; exact .inl h1)
    go_enter Tryz.func63, Tryz.ntmps63
    go_wp2
    go_ret
    exact ⟨by rw [HR.out]; rfl, (Grew.alloc (Grew.refl _) _).alloc _⟩
  · by_cases h2 : b1 < a1
    · have HR : Hid (cmp (a1, a2) (b1, b2) = 1) := by rw [Hid]; exact cmp_gt (by rw [lt_iff]; exact .inl h2)
      go_enter Tryz.func63, Tryz.ntmps63
      go_wp2
      go_ret
      exact ⟨by rw [HR.out]; rfl, (Grew.alloc (Grew.refl _) _).alloc _⟩
    · have he : a1 = b1 := by omega
      by_cases h3 : a2 < b2
      · have HR : Hid (cmp (a1, a2) (b1, b2) = -1) := by rw [Hid]; exact cmp_lt (by rw [lt_iff]; exact .inr ⟨he, h3⟩)
        clear he
        go_enter Tryz.func63, Tryz.ntmps63
        go_wp2
        go_ret
        exact ⟨by rw [HR.out]; rfl, (Grew.alloc (Grew.refl _) _).alloc _⟩
      · by_cases h4 : b2 < a2
        · have HR : Hid (cmp (a1, a2) (b1, b2) = 1) := by rw [Hid]; exact cmp_gt (by rw [lt_iff]; exact .inr ⟨he.symm, h4⟩)
          clear he
          go_enter Tryz.func63, Tryz.ntmps63
          go_wp2
          go_ret
          exact ⟨by rw [HR.out]; rfl, (Grew.alloc (Grew.refl _) _).alloc _⟩
        · have HR : Hid (cmp (a1, a2) (b1, b2) = 0) := by rw [Hid, he, show a2 = b2 by omega]; exact cmp_self _
          clear he
          go_enter Tryz.func63, Tryz.ntmps63
          go_wp2
          go_ret
          exact ⟨by rw [HR.out]; rfl, (Grew.alloc (Grew.refl _) _).alloc _⟩

end Go.Proofs.YtbmohlkcmhhpgaaGreat
