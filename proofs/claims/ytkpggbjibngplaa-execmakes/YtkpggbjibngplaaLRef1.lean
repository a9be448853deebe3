/-
  THE WALKS OF THE DOCUMENT's Takes, is, argument, Next, limits.
-/
import Derived.Test.YtkpggbjibngplaaLNames
namespace Go.Proofs.Ytkpggbjibngplaa
open Go.RowKit Go.Sort

theorem ba_toList {a b : ByteArray} (h : a.toList = b.toList) : a = b := by
  rw [ByteArray.toList_eq, ByteArray.toList_eq] at h
  have h2 : a.data = b.data := Array.toList_inj.1 h
  cases a; cases b; simp only at h2; rw [h2]
theorem nm_at {op : Int} (h : isOpB op = true) (j : Int) (hj : isOpB j = true) (l : List UInt8) (hl : (nmOf j).toList = l) : ((nmOf op).toList == l) = decide (op = j) := by
  subst hl
  by_cases e : op = j
  · subst e; simp
  · rw [decide_eq_false e, beq_eq_false_iff_ne]
    intro h2
    exact e ((nm_ne h hj).1 (ba_toList h2))
theorem nm_some {op : Int} (h : isOpB op = true) : ((nmOf op).toList == []) = false := by
  rw [beq_eq_false_iff_ne]
  intro h2
  rcases op_cases h with rfl | rfl | rfl | rfl | rfl | rfl | rfl | rfl | rfl | rfl | rfl | rfl | rfl | rfl | rfl | rfl | rfl | rfl | rfl | rfl | rfl | rfl | rfl | rfl | rfl | rfl | rfl | rfl | rfl | rfl | rfl | rfl | rfl | rfl | rfl | rfl | rfl <;> revert h2 <;> decide +kernel

set_option maxHeartbeats 2000000 in
theorem refTakes_any (w : World) (op : Int) (h : isOpB op = true) :
    Calls Try.prog 40 #[.int .i64 op] w fun e w' => e = .returned (.tuple #[.int .i64 (takesN op), .int .i64 (leavesN op)]) ∧ Below w.heap.size w w' := by
  go_enter Try.func40, Try.ntmps40
  go_wp2_with fail
  refine (refSpell_any _ _).mono ?_
  rintro e w1 ⟨rfl, hb1⟩
  rw [spellS_op h]
  have HB : Hid (Below w.heap.size w w1) := hb1
  have q0 := nm_at h 0 rfl [115, 116, 111, 112] (by decide +kernel)
  have q33 := nm_at h 33 rfl [100, 101, 108] (by decide +kernel)
  have q30 := nm_at h 30 rfl [106, 117, 109, 112] (by decide +kernel)
  have q1 := nm_at h 1 rfl [112, 117, 115, 104] (by decide +kernel)
  have q4 := nm_at h 4 rfl [108, 111, 97, 100] (by decide +kernel)
  have q6 := nm_at h 6 rfl [97, 114, 103] (by decide +kernel)
  have q7 := nm_at h 7 rfl [103, 101, 116] (by decide +kernel)
  have q8 := nm_at h 8 rfl [104, 97, 115] (by decide +kernel)
  have q2 := nm_at h 2 rfl [112, 111, 112] (by decide +kernel)
  have q5 := nm_at h 5 rfl [115, 97, 118, 101] (by decide +kernel)
  have q31 := nm_at h 31 rfl [122, 101, 114, 111] (by decide +kernel)
  have q32 := nm_at h 32 rfl [112, 117, 116] (by decide +kernel)
  have q35 := nm_at h 35 rfl [111, 117, 116] (by decide +kernel)
  have q36 := nm_at h 36 rfl [97, 98, 111, 114, 116] (by decide +kernel)
  have q9 := nm_at h 9 rfl [103, 101, 116, 120] (by decide +kernel)
  have q20 := nm_at h 20 rfl [110, 101, 103] (by decide +kernel)
  have q21 := nm_at h 21 rfl [110, 111, 116] (by decide +kernel)
  have q3 := nm_at h 3 rfl [100, 117, 112] (by decide +kernel)
  have q34 := nm_at h 34 rfl [112, 117, 116, 120] (by decide +kernel)
  clear hb1
  rcases op_cases h with rfl | rfl | rfl | rfl | rfl | rfl | rfl | rfl | rfl | rfl | rfl | rfl | rfl | rfl | rfl | rfl | rfl | rfl | rfl | rfl | rfl | rfl | rfl | rfl | rfl | rfl | rfl | rfl | rfl | rfl | rfl | rfl | rfl | rfl | rfl | rfl | rfl <;> clear h <;>
  (go_wp2
   go_ret2
   exact ⟨rfl, HB.out⟩)

/-- is it a jump? -/
theorem refIs_jump (w : World) (op : Int) (h : isOpB op = true) :
    Calls Try.prog 38 #[.int .i64 op, .string ⟨#[106, 117, 109, 112]⟩, .string ⟨#[122, 101, 114, 111]⟩, .string ⟨#[]⟩, .string ⟨#[]⟩] w fun e w' => e = .returned (.bool (jumpB op)) ∧ Below w.heap.size w w' := by
  go_enter Try.func38, Try.ntmps38
  go_wp2_with fail
  refine (refSpell_any _ _).mono ?_
  rintro e w1 ⟨rfl, hb1⟩
  rw [spellS_op h]
  have HB : Hid (Below w.heap.size w w1) := hb1
  have q := nm_some h
  have q30 := nm_at h 30 rfl [106, 117, 109, 112] (by decide +kernel)
  have q31 := nm_at h 31 rfl [122, 101, 114, 111] (by decide +kernel)
  clear hb1 h
  by_cases h30 : op = 30
  · rw [decide_eq_true h30] at q30
    subst h30
    go_wp2
    go_ret
    exact ⟨rfl, HB.out⟩
  · rw [decide_eq_false h30] at q30
    by_cases h31 : op = 31
    · rw [decide_eq_true h31] at q31
      subst h31
      go_wp2
      go_ret
      exact ⟨rfl, HB.out⟩
    · rw [decide_eq_false h31] at q31
      have HJ : Hid (jumpB op = false) := by simp [jumpB, h30, h31, Hid]
      go_wp2
      go_ret
      exact ⟨by rw [HJ.out]; rfl, HB.out⟩

theorem lim_ref (p : Nums) (n : Nat) : limB p n = true ↔ ¬ (p.args < 0) ∧ ¬ (16 < p.args) ∧ ¬ (p.reads < 0) ∧ ¬ (16 < p.reads) ∧ ¬ (p.writes < 0) ∧ ¬ (16 < p.writes) ∧ 0 ≤ p.locals ∧ p.locals ≤ 16 ∧ (n : Int) ≤ 256 := by rw [limB_iff]; omega
set_option maxHeartbeats 2000000 in
theorem refLimits_any (w : World) (p : Nums) (ao : Option Addr) (n cap : Nat) :
    Calls Try.prog 37 #[pv p ao n cap] w fun e w' => e = .returned (.bool (limB p n)) ∧ ∃ q os, w' = grow (w.drewN q) os := by
  have HE : Hid (∀ b : Bool, limB p n = b → limB p n = b) := fun b h => h
  obtain ⟨x1, x2, x3, x4⟩ := p
  go_enter Try.func37, Try.ntmps37
  by_cases h0 : x1 < 0
  case pos =>
    go_wp2
    go_ret
    refine ⟨by rw [HE.out false (by rw [← Bool.not_eq_true, lim_ref]; simp only; omega)]; rfl, Grew.alloc (Grew.refl _) _⟩
  have h0b : decide (x1 < 0) = false := by simpa using h0
  by_cases h1 : 16 < x1
  case pos =>
    go_wp2
    go_ret
    refine ⟨by rw [HE.out false (by rw [← Bool.not_eq_true, lim_ref]; simp only; omega)]; rfl, Grew.alloc (Grew.refl _) _⟩
  have h1b : decide (16 < x1) = false := by simpa using h1
  by_cases h2 : x2 < 0
  case pos =>
    go_wp2
    go_ret
    refine ⟨by rw [HE.out false (by rw [← Bool.not_eq_true, lim_ref]; simp only; omega)]; rfl, Grew.alloc (Grew.refl _) _⟩
  have h2b : decide (x2 < 0) = false := by simpa using h2
  by_cases h3 : 16 < x2
  case pos =>
    go_wp2
    go_ret
    refine ⟨by rw [HE.out false (by rw [← Bool.not_eq_true, lim_ref]; simp only; omega)]; rfl, Grew.alloc (Grew.refl _) _⟩
  have h3b : decide (16 < x2) = false := by simpa using h3
  by_cases h4 : x3 < 0
  case pos =>
    go_wp2
    go_ret
    refine ⟨by rw [HE.out false (by rw [← Bool.not_eq_true, lim_ref]; simp only; omega)]; rfl, Grew.alloc (Grew.refl _) _⟩
  have h4b : decide (x3 < 0) = false := by simpa using h4
  by_cases h5 : 16 < x3
  case pos =>
    go_wp2
    go_ret
    refine ⟨by rw [HE.out false (by rw [← Bool.not_eq_true, lim_ref]; simp only; omega)]; rfl, Grew.alloc (Grew.refl _) _⟩
  have h5b : decide (16 < x3) = false := by simpa using h5
  by_cases h6 : 0 ≤ x4
  case neg =>
    have h6b : decide (0 ≤ x4) = false := by simpa using h6
    go_wp2
    go_ret
    refine ⟨by rw [HE.out false (by rw [← Bool.not_eq_true, lim_ref]; simp only; omega)]; rfl, Grew.alloc (Grew.refl _) _⟩
  by_cases h7 : x4 ≤ 16
  case neg =>
    have h7b : decide (x4 ≤ 16) = false := by simpa using h7
    go_wp2
    go_ret
    refine ⟨by rw [HE.out false (by rw [← Bool.not_eq_true, lim_ref]; simp only; omega)]; rfl, Grew.alloc (Grew.refl _) _⟩
  by_cases h8 : (n : Int) ≤ 256
  case neg =>
    have h8b : decide ((n : Int) ≤ 256) = false := by simpa using h8
    go_wp2
    go_ret
    refine ⟨by rw [HE.out false (by rw [← Bool.not_eq_true, lim_ref]; simp only; omega)]; rfl, Grew.alloc (Grew.refl _) _⟩
  go_wp2
  go_ret
  refine ⟨by rw [HE.out true (by rw [lim_ref]; simp only; omega)]; rfl, Grew.alloc (Grew.refl _) _⟩

end Go.Proofs.Ytkpggbjibngplaa
