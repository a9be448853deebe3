/-
  THE WALKS OF withinLimits, fits.
-/
import Derived.Test.YtkpggbjibngplaaLSmall
namespace Go.Proofs.Ytkpggbjibngplaa
open Go.RowKit Go.Sort


set_option maxHeartbeats 2000000 in
theorem withinLimits_any (w : World) (p : Nums) (ao : Option Addr) (n cap : Nat) :
    Calls Try.prog 34 #[pv p ao n cap] w fun e w' => e = .returned (.bool (limB p n)) ∧ ∃ q os, w' = grow (w.drewN q) os := by
  have HE : Hid (∀ b : Bool, limB p n = b → limB p n = b) := fun b h => h
  obtain ⟨x1, x2, x3, x4⟩ := p
  go_enter Try.func34, Try.ntmps34
  by_cases h0 : 0 ≤ x1
  case neg =>
    have h0b : decide (0 ≤ x1) = false := by simpa using h0
    go_wp2
    go_ret
    refine ⟨by rw [HE.out false (by rw [← Bool.not_eq_true, limB_iff]; simp only; omega)]; rfl, Grew.alloc (Grew.refl _) _⟩
  by_cases h1 : x1 ≤ 16
  case neg =>
    have h1b : decide (x1 ≤ 16) = false := by simpa using h1
    go_wp2
    go_ret
    refine ⟨by rw [HE.out false (by rw [← Bool.not_eq_true, limB_iff]; simp only; omega)]; rfl, Grew.alloc (Grew.refl _) _⟩
  by_cases h2 : 0 ≤ x2
  case neg =>
    have h2b : decide (0 ≤ x2) = false := by simpa using h2
    go_wp2
    go_ret
    refine ⟨by rw [HE.out false (by rw [← Bool.not_eq_true, limB_iff]; simp only; omega)]; rfl, Grew.alloc (Grew.refl _) _⟩
  by_cases h3 : x2 ≤ 16
  case neg =>
    have h3b : decide (x2 ≤ 16) = false := by simpa using h3
    go_wp2
    go_ret
    refine ⟨by rw [HE.out false (by rw [← Bool.not_eq_true, limB_iff]; simp only; omega)]; rfl, Grew.alloc (Grew.refl _) _⟩
  by_cases h4 : 0 ≤ x3
  case neg =>
    have h4b : decide (0 ≤ x3) = false := by simpa using h4
    go_wp2
    go_ret
    refine ⟨by rw [HE.out false (by rw [← Bool.not_eq_true, limB_iff]; simp only; omega)]; rfl, Grew.alloc (Grew.refl _) _⟩
  by_cases h5 : x3 ≤ 16
  case neg =>
    have h5b : decide (x3 ≤ 16) = false := by simpa using h5
    go_wp2
    go_ret
    refine ⟨by rw [HE.out false (by rw [← Bool.not_eq_true, limB_iff]; simp only; omega)]; rfl, Grew.alloc (Grew.refl _) _⟩
  by_cases h6 : 0 ≤ x4
  case neg =>
    have h6b : decide (0 ≤ x4) = false := by simpa using h6
    go_wp2
    go_ret
    refine ⟨by rw [HE.out false (by rw [← Bool.not_eq_true, limB_iff]; simp only; omega)]; rfl, Grew.alloc (Grew.refl _) _⟩
  by_cases h7 : x4 ≤ 16
  case neg =>
    have h7b : decide (x4 ≤ 16) = false := by simpa using h7
    go_wp2
    go_ret
    refine ⟨by rw [HE.out false (by rw [← Bool.not_eq_true, limB_iff]; simp only; omega)]; rfl, Grew.alloc (Grew.refl _) _⟩
  by_cases h8 : (n : Int) ≤ 256
  case neg =>
    have h8b : decide ((n : Int) ≤ 256) = false := by simpa using h8
    go_wp2
    go_ret
    refine ⟨by rw [HE.out false (by rw [← Bool.not_eq_true, limB_iff]; simp only; omega)]; rfl, Grew.alloc (Grew.refl _) _⟩
  go_wp2
  go_ret
  refine ⟨by rw [HE.out true (by rw [limB_iff]; simp only; omega)]; rfl, Grew.alloc (Grew.refl _) _⟩

theorem room_kinds (op : Int) : (op = 1 ∨ op = 30 ∨ op = 31) ∨ (op = 4 ∨ op = 5) ∨ op = 6 ∨ (op = 7 ∨ op = 8) ∨ (op = 32 ∨ op = 33) ∨ (op ≠ 1 ∧ op ≠ 30 ∧ op ≠ 31 ∧ op ≠ 4 ∧ op ≠ 5 ∧ op ≠ 6 ∧ op ≠ 7 ∧ op ≠ 8 ∧ op ≠ 32 ∧ op ≠ 33) := by omega

set_option maxHeartbeats 2000000 in
theorem fits_any (w : World) (p : Nums) (ao : Option Addr) (n cap : Nat) (op a : Int) (hp : In64 p.args ∧ In64 p.reads ∧ In64 p.writes ∧ In64 p.locals) :
    Calls Try.prog 43 #[pv p ao n cap, .agg #[.int .i64 op, .int .i64 a]] w fun e w' => e = .returned (.bool (fitsB p op a)) ∧ ∃ q os, w' = grow (w.drewN q) os := by
  have HE : Hid (∀ b : Bool, fitsB p op a = b → fitsB p op a = b) := fun b h => h
  have HP : Hid (In64 p.args ∧ In64 p.reads ∧ In64 p.writes ∧ In64 p.locals) := hp
  clear hp
  obtain ⟨x1, x2, x3, x4⟩ := p
  rcases room_kinds op with h | h | h | h | h | h
  · rcases h with rfl | rfl | rfl <;>
    (go_enter Try.func43, Try.ntmps43
     go_wp2
     go_ret
     refine ⟨by rw [HE.out true (by simp [fitsB])]; rfl, Grew.alloc (Grew.alloc (Grew.refl _) _) _⟩)
  · rcases h with rfl | rfl
    · by_cases h0 : 0 ≤ a
      · by_cases h1 : a < x4
        · go_enter Try.func43, Try.ntmps43
          go_wp2
          go_ret
          refine ⟨by rw [HE.out true (by simp [fitsB, roomN]; omega)]; rfl, Grew.alloc (Grew.alloc (Grew.refl _) _) _⟩
        · have h1' : decide (a < x4) = false := by simpa using h1
          go_enter Try.func43, Try.ntmps43
          go_wp2
          go_ret
          refine ⟨by rw [HE.out false (by simp [fitsB, roomN]; omega)]; rfl, Grew.alloc (Grew.alloc (Grew.refl _) _) _⟩
      · have h0' : decide (0 ≤ a) = false := by simpa using h0
        go_enter Try.func43, Try.ntmps43
        go_wp2
        go_ret
        refine ⟨by rw [HE.out false (by simp [fitsB, roomN]; omega)]; rfl, Grew.alloc (Grew.alloc (Grew.refl _) _) _⟩
    · by_cases h0 : 0 ≤ a
      · by_cases h1 : a < x4
        · go_enter Try.func43, Try.ntmps43
          go_wp2
          go_ret
          refine ⟨by rw [HE.out true (by simp [fitsB, roomN]; omega)]; rfl, Grew.alloc (Grew.alloc (Grew.refl _) _) _⟩
        · have h1' : decide (a < x4) = false := by simpa using h1
          go_enter Try.func43, Try.ntmps43
          go_wp2
          go_ret
          refine ⟨by rw [HE.out false (by simp [fitsB, roomN]; omega)]; rfl, Grew.alloc (Grew.alloc (Grew.refl _) _) _⟩
      · have h0' : decide (0 ≤ a) = false := by simpa using h0
        go_enter Try.func43, Try.ntmps43
        go_wp2
        go_ret
        refine ⟨by rw [HE.out false (by simp [fitsB, roomN]; omega)]; rfl, Grew.alloc (Grew.alloc (Grew.refl _) _) _⟩
  · subst h
    by_cases h0 : 0 ≤ a
    · by_cases h1 : a < x1
      · go_enter Try.func43, Try.ntmps43
        go_wp2
        go_ret
        refine ⟨by rw [HE.out true (by simp [fitsB, roomN]; omega)]; rfl, Grew.alloc (Grew.alloc (Grew.refl _) _) _⟩
      · have h1' : decide (a < x1) = false := by simpa using h1
        go_enter Try.func43, Try.ntmps43
        go_wp2
        go_ret
        refine ⟨by rw [HE.out false (by simp [fitsB, roomN]; omega)]; rfl, Grew.alloc (Grew.alloc (Grew.refl _) _) _⟩
    · have h0' : decide (0 ≤ a) = false := by simpa using h0
      go_enter Try.func43, Try.ntmps43
      go_wp2
      go_ret
      refine ⟨by rw [HE.out false (by simp [fitsB, roomN]; omega)]; rfl, Grew.alloc (Grew.alloc (Grew.refl _) _) _⟩
  · rcases h with rfl | rfl
    · by_cases h0 : 0 ≤ a
      · by_cases h1 : a < x2
        · go_enter Try.func43, Try.ntmps43
          go_wp2
          go_ret
          refine ⟨by rw [HE.out true (by simp [fitsB, roomN]; omega)]; rfl, Grew.alloc (Grew.alloc (Grew.refl _) _) _⟩
        · have h1' : decide (a < x2) = false := by simpa using h1
          go_enter Try.func43, Try.ntmps43
          go_wp2
          go_ret
          refine ⟨by rw [HE.out false (by simp [fitsB, roomN]; omega)]; rfl, Grew.alloc (Grew.alloc (Grew.refl _) _) _⟩
      · have h0' : decide (0 ≤ a) = false := by simpa using h0
        go_enter Try.func43, Try.ntmps43
        go_wp2
        go_ret
        refine ⟨by rw [HE.out false (by simp [fitsB, roomN]; omega)]; rfl, Grew.alloc (Grew.alloc (Grew.refl _) _) _⟩
    · by_cases h0 : 0 ≤ a
      · by_cases h1 : a < x2
        · go_enter Try.func43, Try.ntmps43
          go_wp2
          go_ret
          refine ⟨by rw [HE.out true (by simp [fitsB, roomN]; omega)]; rfl, Grew.alloc (Grew.alloc (Grew.refl _) _) _⟩
        · have h1' : decide (a < x2) = false := by simpa using h1
          go_enter Try.func43, Try.ntmps43
          go_wp2
          go_ret
          refine ⟨by rw [HE.out false (by simp [fitsB, roomN]; omega)]; rfl, Grew.alloc (Grew.alloc (Grew.refl _) _) _⟩
      · have h0' : decide (0 ≤ a) = false := by simpa using h0
        go_enter Try.func43, Try.ntmps43
        go_wp2
        go_ret
        refine ⟨by rw [HE.out false (by simp [fitsB, roomN]; omega)]; rfl, Grew.alloc (Grew.alloc (Grew.refl _) _) _⟩
  · rcases h with rfl | rfl
    · by_cases h0 : 0 ≤ a
      · by_cases h1 : a < x3
        · go_enter Try.func43, Try.ntmps43
          go_wp2
          go_ret
          refine ⟨by rw [HE.out true (by simp [fitsB, roomN]; omega)]; rfl, Grew.alloc (Grew.alloc (Grew.refl _) _) _⟩
        · have h1' : decide (a < x3) = false := by simpa using h1
          go_enter Try.func43, Try.ntmps43
          go_wp2
          go_ret
          refine ⟨by rw [HE.out false (by simp [fitsB, roomN]; omega)]; rfl, Grew.alloc (Grew.alloc (Grew.refl _) _) _⟩
      · have h0' : decide (0 ≤ a) = false := by simpa using h0
        go_enter Try.func43, Try.ntmps43
        go_wp2
        go_ret
        refine ⟨by rw [HE.out false (by simp [fitsB, roomN]; omega)]; rfl, Grew.alloc (Grew.alloc (Grew.refl _) _) _⟩
    · by_cases h0 : 0 ≤ a
      · by_cases h1 : a < x3
        · go_enter Try.func43, Try.ntmps43
          go_wp2
          go_ret
          refine ⟨by rw [HE.out true (by simp [fitsB, roomN]; omega)]; rfl, Grew.alloc (Grew.alloc (Grew.refl _) _) _⟩
        · have h1' : decide (a < x3) = false := by simpa using h1
          go_enter Try.func43, Try.ntmps43
          go_wp2
          go_ret
          refine ⟨by rw [HE.out false (by simp [fitsB, roomN]; omega)]; rfl, Grew.alloc (Grew.alloc (Grew.refl _) _) _⟩
      · have h0' : decide (0 ≤ a) = false := by simpa using h0
        go_enter Try.func43, Try.ntmps43
        go_wp2
        go_ret
        refine ⟨by rw [HE.out false (by simp [fitsB, roomN]; omega)]; rfl, Grew.alloc (Grew.alloc (Grew.refl _) _) _⟩
  · obtain ⟨g1, g2, g3, g4, g5, g6, g7, g8, g9, g10⟩ := h
    by_cases h0 : 0 ≤ a
    · by_cases h1 : a < 1
      · go_enter Try.func43, Try.ntmps43
        go_wp2
        go_ret
        refine ⟨by rw [HE.out true (by simp [fitsB, roomN, g1, g2, g3, g4, g5, g6, g7, g8, g9, g10]; omega)]; rfl, Grew.alloc (Grew.alloc (Grew.refl _) _) _⟩
      · have h1' : decide (a < 1) = false := by simpa using h1
        go_enter Try.func43, Try.ntmps43
        go_wp2
        go_ret
        refine ⟨by rw [HE.out false (by simp [fitsB, roomN, g1, g2, g3, g4, g5, g6, g7, g8, g9, g10]; omega)]; rfl, Grew.alloc (Grew.alloc (Grew.refl _) _) _⟩
    · have h0' : decide (0 ≤ a) = false := by simpa using h0
      go_enter Try.func43, Try.ntmps43
      go_wp2
      go_ret
      refine ⟨by rw [HE.out false (by simp [fitsB, roomN, g1, g2, g3, g4, g5, g6, g7, g8, g9, g10]; omega)]; rfl, Grew.alloc (Grew.alloc (Grew.refl _) _) _⟩

end Go.Proofs.Ytkpggbjibngplaa
