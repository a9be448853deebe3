/-
  THE WALK OF Compare.
-/
import Derived.Test.YtbmohlkcmhhpgaaGreatKBase
namespace Go.Proofs.YtbmohlkcmhhpgaaGreat
open Go.RowKit Go.Sort

theorem compare_any (w : World) (a1 a2 b1 b2 : Int) :
    Calls Tryz.prog 50 #[.agg #[.int .i64 a1, .int .i64 a2], .agg #[.int .i64 b1, .int .i64 b2]] w fun e w' => e = .returned (.int .i64 (cmp (a1, a2) (b1, b2))) ∧ ∃ q os, w' = grow (w.drewN q) os := by
  have hq := run_eqKey a1 a2 b1 b2
  have hg := fun op x y => run_eqGuard op x y a1 a2 b1 b2
  have HC : Hid (∀ c, cmp (a1, a2) (b1, b2) = c → cmp (a1, a2) (b1, b2) = c) := fun c h => h
  by_cases he : (a1, a2) = (b1, b2)
  · have hd : decide ((a1, a2) = (b1, b2)) = true := by simpa using he
    rw [hd] at hq
    have HR : Hid (cmp (a1, a2) (b1, b2) = 0) := by rw [Hid, he]; exact cmp_self _
    clear he hd
    go_enter Tryz.func50, Tryz.ntmps50
    go_wp2
    go_ret
    exact ⟨by rw [HR.out]; rfl, (Grew.alloc (Grew.refl _) _).alloc _⟩
  · have hd : decide ((a1, a2) = (b1, b2)) = false := by simpa using he
    rw [hd] at hq
    clear hd
    by_cases h1 : a1 < b1
    · have HR : Hid (cmp (a1, a2) (b1, b2) = -1) := by rw [Hid]; exact cmp_lt (by rw [lt_iff]; exact .inl h1)
      have h1' : decide (a1 < b1) = true := by simpa using h1
      clear he
      go_enter Tryz.func50, Tryz.ntmps50
      go_wp2
      go_ret
      exact ⟨by rw [HR.out]; rfl, (Grew.alloc (Grew.refl _) _).alloc _⟩
    · have h1' : decide (a1 < b1) = false := by simpa using h1
      by_cases h2 : a1 = b1
      · subst h2
        by_cases h3 : a2 < b2
        · have HR : Hid (cmp (a1, a2) (a1, b2) = -1) := by rw [Hid]; exact cmp_lt (by rw [lt_iff]; exact .inr ⟨rfl, h3⟩)
          clear he
          go_enter Tryz.func50, Tryz.ntmps50
          go_wp2
          go_ret
          exact ⟨by rw [HR.out]; rfl, (Grew.alloc (Grew.refl _) _).alloc _⟩
        · have h4 : b2 < a2 := by
            rcases Int.lt_trichotomy a2 b2 with h | h | h
            · exact absurd h h3
            · exact absurd (by rw [h]) he
            · exact h
          have HR : Hid (cmp (a1, a2) (a1, b2) = 1) := by rw [Hid]; exact cmp_gt (by rw [lt_iff]; exact .inr ⟨rfl, h4⟩)
          have h3' : decide (a2 < b2) = false := by simpa using h3
          clear he
          go_enter Tryz.func50, Tryz.ntmps50
          go_wp2
          go_ret
          exact ⟨by rw [HR.out]; rfl, (Grew.alloc (Grew.refl _) _).alloc _⟩
      · have h2' : (a1 == b1) = false := by simpa using h2
        have HR : Hid (cmp (a1, a2) (b1, b2) = 1) := by rw [Hid]; exact cmp_gt (by rw [lt_iff]; simp only; omega)
        clear he
        go_enter Tryz.func50, Tryz.ntmps50
        go_wp2
        go_ret
        exact ⟨by rw [HR.out]; rfl, (Grew.alloc (Grew.refl _) _).alloc _⟩

end Go.Proofs.YtbmohlkcmhhpgaaGreat
