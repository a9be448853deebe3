import Derived.Test.YtiiplikmoodfnaaGreatDoorKLSearch
import Derived.Lib.ParseIntB
import Derived.Lib.ItoaNum
import Derived.Lib.ItoaLen
/-
  THE WALKS OF THE DOCUMENT's Takes, is, argument, Next, limits.
-/
namespace Go.Proofs.YtiiplikmoodfnaaGreatDoor
open Go.RowKit Go.Sort

theorem ba_toList {a b : ByteArray} (h : a.toList = b.toList) : a = b := by
  rw [ByteArray.toList_eq, ByteArray.toList_eq] at h
  have h2 : a.data = b.data := Array.toList_inj.1 h
  cases a; cases b; simp only at h2; rw [h2]
theorem nm_at {op : Int} (h : isOpB op = true) (j : Int) (hj : isOpB j = true) (l : List UInt8) (hl : (nmOf j).toList = l) : ((nmOf op).toList == l) = decide (op = j) := by
  subst hl
  by_cases e : op = j
  · subst e; simp
  · rw [decide_eq_false e, beq_eq_false_iff_ne]
    intro h2
    exact e ((nm_ne h hj).1 (ba_toList h2))
theorem nm_some {op : Int} (h : isOpB op = true) : ((nmOf op).toList == []) = false := by
  rw [beq_eq_false_iff_ne]
  intro h2
  rcases op_cases h with rfl | rfl | rfl | rfl | rfl | rfl | rfl | rfl | rfl | rfl | rfl | rfl | rfl | rfl | rfl | rfl | rfl | rfl | rfl | rfl | rfl | rfl | rfl | rfl | rfl | rfl | rfl | rfl | rfl | rfl | rfl | rfl | rfl | rfl | rfl | rfl | rfl <;> revert h2 <;> decide +kernel

set_option maxHeartbeats 2000000 in
theorem refTakes_any (w : World) (op : Int) (h : isOpB op = true) :
    Calls Tryz.prog 65 #[.int .i64 op] w fun e w' => e = .returned (.tuple #[.int .i64 (takesN op), .int .i64 (leavesN op)]) ∧ Below w.heap.size w w' := by
  go_enter Tryz.func65, Tryz.ntmps65
  go_wp2_with fail
  refine (refSpell_any _ _).mono ?_
  rintro e w1 ⟨rfl, hb1⟩
  rw [spellS_op h]
  have HB : Hid (Below w.heap.size w w1) := hb1
  have q0 := nm_at h 0 rfl [115, 116, 111, 112] (by decide +kernel)
  have q33 := nm_at h 33 rfl [100, 101, 108] (by decide +kernel)
  have q30 := nm_at h 30 rfl [106, 117, 109, 112] (by decide +kernel)
  have q1 := nm_at h 1 rfl [112, 117, 115, 104] (by decide +kernel)
  have q4 := nm_at h 4 rfl [108, 111, 97, 100] (by decide +kernel)
  have q6 := nm_at h 6 rfl [97, 114, 103] (by decide +kernel)
  have q7 := nm_at h 7 rfl [103, 101, 116] (by decide +kernel)
  have q8 := nm_at h 8 rfl [104, 97, 115] (by decide +kernel)
  have q2 := nm_at h 2 rfl [112, 111, 112] (by decide +kernel)
  have q5 := nm_at h 5 rfl [115, 97, 118, 101] (by decide +kernel)
  have q31 := nm_at h 31 rfl [122, 101, 114, 111] (by decide +kernel)
  have q32 := nm_at h 32 rfl [112, 117, 116] (by decide +kernel)
  have q35 := nm_at h 35 rfl [111, 117, 116] (by decide +kernel)
  have q36 := nm_at h 36 rfl [97, 98, 111, 114, 116] (by decide +kernel)
  have q9 := nm_at h 9 rfl [103, 101, 116, 120] (by decide +kernel)
  have q20 := nm_at h 20 rfl [110, 101, 103] (by decide +kernel)
  have q21 := nm_at h 21 rfl [110, 111, 116] (by decide +kernel)
  have q3 := nm_at h 3 rfl [100, 117, 112] (by decide +kernel)
  have q34 := nm_at h 34 rfl [112, 117, 116, 120] (by decide +kernel)
  clear hb1
  rcases op_cases h with rfl | rfl | rfl | rfl | rfl | rfl | rfl | rfl | rfl | rfl | rfl | rfl | rfl | rfl | rfl | rfl | rfl | rfl | rfl | rfl | rfl | rfl | rfl | rfl | rfl | rfl | rfl | rfl | rfl | rfl | rfl | rfl | rfl | rfl | rfl | rfl | rfl <;> clear h <;>
  (go_wp2
   go_ret2
   exact ⟨rfl, HB.out⟩)

/-- is it a jump? -/
theorem refIs_jump (w : World) (op : Int) (h : isOpB op = true) :
    Calls Tryz.prog 62 #[.int .i64 op, .string ⟨#[106, 117, 109, 112]⟩, .string ⟨#[122, 101, 114, 111]⟩, .string ⟨#[]⟩, .string ⟨#[]⟩] w fun e w' => e = .returned (.bool (jumpB op)) ∧ Below w.heap.size w w' := by
  go_enter Tryz.func62, Tryz.ntmps62
  go_wp2_with fail
  refine (refSpell_any _ _).mono ?_
  rintro e w1 ⟨rfl, hb1⟩
  rw [spellS_op h]
  have HB : Hid (Below w.heap.size w w1) := hb1
  have q := nm_some h
  have q30 := nm_at h 30 rfl [106, 117, 109, 112] (by decide +kernel)
  have q31 := nm_at h 31 rfl [122, 101, 114, 111] (by decide +kernel)
  clear hb1 h
  by_cases h30 : op = 30
  · rw [decide_eq_true h30] at q30
    subst h30
    go_wp2
    go_ret
    exact ⟨rfl, HB.out⟩
  · rw [decide_eq_false h30] at q30
    by_cases h31 : op = 31
    · rw [decide_eq_true h31] at q31
      subst h31
      go_wp2
      go_ret
      exact ⟨rfl, HB.out⟩
    · rw [decide_eq_false h31] at q31
      have HJ : Hid (jumpB op = false) := by simp [jumpB, h30, h31, Hid]
      go_wp2
      go_ret
      exact ⟨by rw [HJ.out]; rfl, HB.out⟩

theorem lim_ref (p : Nums) (n : Nat) : limB p n = true ↔ ¬ (p.args < 0) ∧ ¬ (16 < p.args) ∧ ¬ (p.reads < 0) ∧ ¬ (16 < p.reads) ∧ ¬ (p.writes < 0) ∧ ¬ (16 < p.writes) ∧ 0 ≤ p.locals ∧ p.locals ≤ 16 ∧ (n : Int) ≤ 256 := by rw [limB_iff]; omega
set_option maxHeartbeats 2000000 in
theorem refLimits_any (w : World) (p : Nums) (ao : Option Addr) (n cap : Nat) :
    Calls Tryz.prog 63 #[pv p ao n cap] w fun e w' => e = .returned (.bool (limB p n)) ∧ ∃ q os, w' = grow (w.drewN q) os := by
  have HE : Hid (∀ b : Bool, limB p n = b → limB p n = b) := fun b h => h
  obtain ⟨x1, x2, x3, x4⟩ := p
  go_enter Tryz.func63, Tryz.ntmps63
  by_cases h0 : x1 < 0
  case pos =>
    go_wp2
    go_ret
    refine ⟨by rw [HE.out false (by rw [← Bool.not_eq_true, lim_ref]; simp only; omega)]; rfl, Grew.alloc (Grew.refl _) _⟩
  have h0b : decide (x1 < 0) = false := by simpa using h0
  by_cases h1 : 16 < x1
  case pos =>
    go_wp2
    go_ret
    refine ⟨by rw [HE.out false (by rw [← Bool.not_eq_true, lim_ref]; simp only; omega)]; rfl, Grew.alloc (Grew.refl _) _⟩
  have h1b : decide (16 < x1) = false := by simpa using h1
  by_cases h2 : x2 < 0
  case pos =>
    go_wp2
    go_ret
    refine ⟨by rw [HE.out false (by rw [← Bool.not_eq_true, lim_ref]; simp only; omega)]; rfl, Grew.alloc (Grew.refl _) _⟩
  have h2b : decide (x2 < 0) = false := by simpa using h2
  by_cases h3 : 16 < x2
  case pos =>
    go_wp2
    go_ret
    refine ⟨by rw [HE.out false (by rw [← Bool.not_eq_true, lim_ref]; simp only; omega)]; rfl, Grew.alloc (Grew.refl _) _⟩
  have h3b : decide (16 < x2) = false := by simpa using h3
  by_cases h4 : x3 < 0
  case pos =>
    go_wp2
    go_ret
    refine ⟨by rw [HE.out false (by rw [← Bool.not_eq_true, lim_ref]; simp only; omega)]; rfl, Grew.alloc (Grew.refl _) _⟩
  have h4b : decide (x3 < 0) = false := by simpa using h4
  by_cases h5 : 16 < x3
  case pos =>
    go_wp2
    go_ret
    refine ⟨by rw [HE.out false (by rw [← Bool.not_eq_true, lim_ref]; simp only; omega)]; rfl, Grew.alloc (Grew.refl _) _⟩
  have h5b : decide (16 < x3) = false := by simpa using h5
  by_cases h6 : 0 ≤ x4
  case neg =>
    have h6b : decide (0 ≤ x4) = false := by simpa using h6
    go_wp2
    go_ret
    refine ⟨by rw [HE.out false (by rw [← Bool.not_eq_true, lim_ref]; simp only; omega)]; rfl, Grew.alloc (Grew.refl _) _⟩
  by_cases h7 : x4 ≤ 16
  case neg =>
    have h7b : decide (x4 ≤ 16) = false := by simpa using h7
    go_wp2
    go_ret
    refine ⟨by rw [HE.out false (by rw [← Bool.not_eq_true, lim_ref]; simp only; omega)]; rfl, Grew.alloc (Grew.refl _) _⟩
  by_cases h8 : (n : Int) ≤ 256
  case neg =>
    have h8b : decide ((n : Int) ≤ 256) = false := by simpa using h8
    go_wp2
    go_ret
    refine ⟨by rw [HE.out false (by rw [← Bool.not_eq_true, lim_ref]; simp only; omega)]; rfl, Grew.alloc (Grew.refl _) _⟩
  go_wp2
  go_ret
  refine ⟨by rw [HE.out true (by rw [lim_ref]; simp only; omega)]; rfl, Grew.alloc (Grew.refl _) _⟩

end Go.Proofs.YtiiplikmoodfnaaGreatDoor
/-
  THE WALKS OF Wants, OF THE DOCUMENT'S Op, is, Wants, OF LangNames.
-/
namespace Go.Proofs.YtiiplikmoodfnaaGreatDoor
open Go.RowKit Go.Sort

def wantsB (op : Int) : Bool := decide (op = 1) || decide (op = 4) || decide (op = 5) || decide (op = 6) || decide (op = 7) || decide (op = 8) || decide (op = 30) || decide (op = 31) || decide (op = 32) || decide (op = 33)
theorem wants_any (w : World) (op : Int) : Calls Tryz.prog 72 #[.int .i64 op] w fun e w' => e = .returned (.bool (wantsB op)) ∧ w' = w := by
  by_cases h : op = 1 ∨ op = 4 ∨ op = 5 ∨ op = 6 ∨ op = 7 ∨ op = 8 ∨ op = 30 ∨ op = 31 ∨ op = 32 ∨ op = 33
  · rcases h with rfl | rfl | rfl | rfl | rfl | rfl | rfl | rfl | rfl | rfl
    all_goals
      go_enter Tryz.func72, Tryz.ntmps72
      go_wp2
      go_ret
      exact ⟨rfl, rfl⟩
  · have HE : Hid (wantsB op = false) := by
      show wantsB op = false
      simp only [not_or] at h
      obtain ⟨h1, h4, h5, h6, h7, h8, h30, h31, h32, h33⟩ := h
      unfold wantsB
      rw [decide_eq_false h1, decide_eq_false h4, decide_eq_false h5, decide_eq_false h6, decide_eq_false h7, decide_eq_false h8, decide_eq_false h30, decide_eq_false h31, decide_eq_false h32, decide_eq_false h33]
      rfl
    have e1 : (op == 1) = false := by simp; omega
    have e4 : (op == 4) = false := by simp; omega
    have e5 : (op == 5) = false := by simp; omega
    have e6 : (op == 6) = false := by simp; omega
    have e7 : (op == 7) = false := by simp; omega
    have e8 : (op == 8) = false := by simp; omega
    have e30 : (op == 30) = false := by simp; omega
    have e31 : (op == 31) = false := by simp; omega
    have e32 : (op == 32) = false := by simp; omega
    have e33 : (op == 33) = false := by simp; omega
    clear h
    go_enter Tryz.func72, Tryz.ntmps72
    go_wp2
    go_ret
    exact ⟨by rw [HE.out]; rfl, rfl⟩

set_option maxRecDepth 100000 in
set_option maxHeartbeats 1000000 in
theorem refOp_any (w : World) (s : ByteArray) : Calls Tryz.prog 39 #[.string s] w fun e w' => e = .returned (.tuple #[.int .i64 ((opR s).1 : Int), .bool (opR s).2]) ∧ Below w.heap.size w w' := by
  go_enter Tryz.func39, Tryz.ntmps39
  go_wp2_with fail
  refine (refNames_any _).mono ?_
  rintro e w1 ⟨rfl, hb1⟩
  have hw2 : ∀ i, i < 37 → ((w1.alloc (.cells #[.string ⟨#[]⟩, .string ⟨#[]⟩, .string ⟨#[]⟩, .string ⟨#[]⟩, .string ⟨#[]⟩, .string ⟨#[]⟩, .string ⟨#[]⟩, .string ⟨#[]⟩, .string ⟨#[]⟩, .string ⟨#[]⟩, .string ⟨#[]⟩, .string ⟨#[]⟩, .string ⟨#[]⟩, .string ⟨#[]⟩, .string ⟨#[]⟩, .string ⟨#[]⟩, .string ⟨#[]⟩, .string ⟨#[]⟩, .string ⟨#[]⟩, .string ⟨#[]⟩, .string ⟨#[]⟩, .string ⟨#[]⟩, .string ⟨#[]⟩, .string ⟨#[]⟩, .string ⟨#[]⟩, .string ⟨#[]⟩, .string ⟨#[]⟩, .string ⟨#[]⟩, .string ⟨#[]⟩, .string ⟨#[]⟩, .string ⟨#[]⟩, .string ⟨#[]⟩, .string ⟨#[]⟩, .string ⟨#[]⟩, .string ⟨#[]⟩, .string ⟨#[]⟩, .string ⟨#[]⟩] 155)).setRow w1.heap.size nmCells).cell? ⟨w1.heap.size, i, none⟩ = some (.string (nmOf (i : Int))) := fun i hi => by
    rw [cell_setRow_same _ _ _ _ nmCells _ _ (heap_alloc_new (w := w1) (.cells #[.string ⟨#[]⟩, .string ⟨#[]⟩, .string ⟨#[]⟩, .string ⟨#[]⟩, .string ⟨#[]⟩, .string ⟨#[]⟩, .string ⟨#[]⟩, .string ⟨#[]⟩, .string ⟨#[]⟩, .string ⟨#[]⟩, .string ⟨#[]⟩, .string ⟨#[]⟩, .string ⟨#[]⟩, .string ⟨#[]⟩, .string ⟨#[]⟩, .string ⟨#[]⟩, .string ⟨#[]⟩, .string ⟨#[]⟩, .string ⟨#[]⟩, .string ⟨#[]⟩, .string ⟨#[]⟩, .string ⟨#[]⟩, .string ⟨#[]⟩, .string ⟨#[]⟩, .string ⟨#[]⟩, .string ⟨#[]⟩, .string ⟨#[]⟩, .string ⟨#[]⟩, .string ⟨#[]⟩, .string ⟨#[]⟩, .string ⟨#[]⟩, .string ⟨#[]⟩, .string ⟨#[]⟩, .string ⟨#[]⟩, .string ⟨#[]⟩, .string ⟨#[]⟩, .string ⟨#[]⟩] 155) _ rfl)]
    exact nmCells_get i hi
  have HC : Hid (∀ i, i < 37 → ((w1.alloc (.cells #[.string ⟨#[]⟩, .string ⟨#[]⟩, .string ⟨#[]⟩, .string ⟨#[]⟩, .string ⟨#[]⟩, .string ⟨#[]⟩, .string ⟨#[]⟩, .string ⟨#[]⟩, .string ⟨#[]⟩, .string ⟨#[]⟩, .string ⟨#[]⟩, .string ⟨#[]⟩, .string ⟨#[]⟩, .string ⟨#[]⟩, .string ⟨#[]⟩, .string ⟨#[]⟩, .string ⟨#[]⟩, .string ⟨#[]⟩, .string ⟨#[]⟩, .string ⟨#[]⟩, .string ⟨#[]⟩, .string ⟨#[]⟩, .string ⟨#[]⟩, .string ⟨#[]⟩, .string ⟨#[]⟩, .string ⟨#[]⟩, .string ⟨#[]⟩, .string ⟨#[]⟩, .string ⟨#[]⟩, .string ⟨#[]⟩, .string ⟨#[]⟩, .string ⟨#[]⟩, .string ⟨#[]⟩, .string ⟨#[]⟩, .string ⟨#[]⟩, .string ⟨#[]⟩, .string ⟨#[]⟩] 155)).setRow w1.heap.size nmCells).cell? ⟨w1.heap.size, i, none⟩ = some (.string (nmOf (i : Int)))) := hw2
  have HB : Hid (Below w.heap.size w ((w1.alloc (.cells #[.string ⟨#[]⟩, .string ⟨#[]⟩, .string ⟨#[]⟩, .string ⟨#[]⟩, .string ⟨#[]⟩, .string ⟨#[]⟩, .string ⟨#[]⟩, .string ⟨#[]⟩, .string ⟨#[]⟩, .string ⟨#[]⟩, .string ⟨#[]⟩, .string ⟨#[]⟩, .string ⟨#[]⟩, .string ⟨#[]⟩, .string ⟨#[]⟩, .string ⟨#[]⟩, .string ⟨#[]⟩, .string ⟨#[]⟩, .string ⟨#[]⟩, .string ⟨#[]⟩, .string ⟨#[]⟩, .string ⟨#[]⟩, .string ⟨#[]⟩, .string ⟨#[]⟩, .string ⟨#[]⟩, .string ⟨#[]⟩, .string ⟨#[]⟩, .string ⟨#[]⟩, .string ⟨#[]⟩, .string ⟨#[]⟩, .string ⟨#[]⟩, .string ⟨#[]⟩, .string ⟨#[]⟩, .string ⟨#[]⟩, .string ⟨#[]⟩, .string ⟨#[]⟩, .string ⟨#[]⟩] 155)).setRow w1.heap.size nmCells)) := hb1.trans (((Below.refl w.heap.size w1).alloc hb1.size _).trans ⟨rfl, rfl, rfl, by simp, fun k hk => setRow_other _ _ _ _ (by have := hb1.size; omega)⟩)
  clear hw2 hb1
  go_wp2_with (refine wpList_store_row rfl _ _ _ rfl w1.heap.size nmCells rfl rfl 155 _ (heap_alloc_new _ _ rfl) (by kernel_rfl) (by kernel_rfl) (by kernel_rfl) ?_)
  generalize (w1.alloc (.cells #[.string ⟨#[]⟩, .string ⟨#[]⟩, .string ⟨#[]⟩, .string ⟨#[]⟩, .string ⟨#[]⟩, .string ⟨#[]⟩, .string ⟨#[]⟩, .string ⟨#[]⟩, .string ⟨#[]⟩, .string ⟨#[]⟩, .string ⟨#[]⟩, .string ⟨#[]⟩, .string ⟨#[]⟩, .string ⟨#[]⟩, .string ⟨#[]⟩, .string ⟨#[]⟩, .string ⟨#[]⟩, .string ⟨#[]⟩, .string ⟨#[]⟩, .string ⟨#[]⟩, .string ⟨#[]⟩, .string ⟨#[]⟩, .string ⟨#[]⟩, .string ⟨#[]⟩, .string ⟨#[]⟩, .string ⟨#[]⟩, .string ⟨#[]⟩, .string ⟨#[]⟩, .string ⟨#[]⟩, .string ⟨#[]⟩, .string ⟨#[]⟩, .string ⟨#[]⟩, .string ⟨#[]⟩, .string ⟨#[]⟩, .string ⟨#[]⟩, .string ⟨#[]⟩, .string ⟨#[]⟩] 155)).setRow w1.heap.size nmCells = W2 at *
  generalize w1.heap.size = G at *
  obtain ⟨nc, hnc⟩ : ∃ nc, nc = nmCells := ⟨_, rfl⟩
  rw [← hnc]
  clear hnc
  go_loop [5] (fun x => ∃ k : Nat, k ≤ 37 ∧ x = .int .i64 (k : Int) ∧ Hid (findN s k = none)) (fun x => 37 - (intOf x).toNat)
  case atStart => exact ⟨0, by omega, rfl, rfl⟩
  case round =>
    obtain ⟨k, hk, rfl, HA⟩ := hrel
    by_cases hlt : k < 37
    · have c0 := HC.out k hlt
      have HS : Hid (((nmOf (k : Int)).toList == s.toList) = true → opR s = (k, true)) := fun h => by unfold opR; rw [find_stop HA.out h hlt]
      have HT : Hid (((nmOf (k : Int)).toList == s.toList) = false → findN s (k + 1) = none) := find_next HA.out
      generalize nmOf (k : Int) = nm at *
      cases hq : nm.toList == s.toList with
      | true =>
        have HV : Hid (opR s = (k, true)) := HS.out hq
        go_wp2
        go_ret2
        exact ⟨by rw [HV.out]; rfl, HB.out⟩
      | false =>
        have HV : Hid (findN s (k + 1) = none) := HT.out hq
        go_wp2
        go_round
        case rel => exact ⟨k + 1, by omega, by go_num, HV⟩
        case measure => simp [intOf]; omega
    · obtain rfl : k = 37 := by omega
      have HV : Hid (opR s = (0, false)) := by show opR s = _; unfold opR; rw [HA.out]
      go_wp2
      go_ret2
      exact ⟨by rw [HV.out]; rfl, HB.out⟩

/-- is it one of these names? -/
def isV (s a b c d : List UInt8) : Bool := (s != []) && (s == a || s == b || s == c || s == d)
theorem refIs_any (w : World) (op : Int) (a b c d : ByteArray) : Calls Tryz.prog 62 #[.int .i64 op, .string a, .string b, .string c, .string d] w fun e w' => e = .returned (.bool (isV (spellS op).toList a.toList b.toList c.toList d.toList)) ∧ Below w.heap.size w w' := by
  go_enter Tryz.func62, Tryz.ntmps62
  go_wp2_with fail
  refine (refSpell_any _ _).mono ?_
  rintro e w1 ⟨rfl, hb1⟩
  have HB : Hid (Below w.heap.size w w1) := hb1
  have HE : Hid (isV (spellS op).toList a.toList b.toList c.toList d.toList = (((spellS op).toList != []) && ((spellS op).toList == a.toList || (spellS op).toList == b.toList || (spellS op).toList == c.toList || (spellS op).toList == d.toList))) := rfl
  clear hb1
  obtain ⟨s, hs⟩ : ∃ s, s = spellS op := ⟨_, rfl⟩
  rw [← hs] at HE ⊢
  have HSp : Hid (spellS op = s) := hs.symm
  clear hs
  cases h0 : (s.toList == []) with
  | true =>
    have HV : Hid (isV s.toList a.toList b.toList c.toList d.toList = false) := by rw [HE.out, bne, h0]; rfl
    clear HE
    go_wp2
    go_ret
    exact ⟨by rw [HSp.out, HV.out]; rfl, HB.out⟩
  | false =>
    cases ha : (s.toList == a.toList) with
    | true =>
      have HV : Hid (isV s.toList a.toList b.toList c.toList d.toList = true) := by rw [HE.out, bne, h0, ha]; simp [Hid]
      clear HE
      go_wp2
      go_ret
      exact ⟨by rw [HSp.out, HV.out]; rfl, HB.out⟩
    | false =>
      cases hb : (s.toList == b.toList) with
      | true =>
        have HV : Hid (isV s.toList a.toList b.toList c.toList d.toList = true) := by rw [HE.out, bne, h0, ha, hb]; simp [Hid]
        clear HE
        go_wp2
        go_ret
        exact ⟨by rw [HSp.out, HV.out]; rfl, HB.out⟩
      | false =>
        cases hc : (s.toList == c.toList) with
        | true =>
          have HV : Hid (isV s.toList a.toList b.toList c.toList d.toList = true) := by rw [HE.out, bne, h0, ha, hb, hc]; simp [Hid]
          clear HE
          go_wp2
          go_ret
          exact ⟨by rw [HSp.out, HV.out]; rfl, HB.out⟩
        | false =>
          cases hd : (s.toList == d.toList) with
          | true =>
            have HV : Hid (isV s.toList a.toList b.toList c.toList d.toList = true) := by rw [HE.out, bne, h0, ha, hb, hc, hd]; simp [Hid]
            clear HE
            go_wp2
            go_ret
            exact ⟨by rw [HSp.out, HV.out]; rfl, HB.out⟩
          | false =>
            have HV : Hid (isV s.toList a.toList b.toList c.toList d.toList = false) := by rw [HE.out, bne, h0, ha, hb, hc, hd]; rfl
            clear HE
            go_wp2
            go_ret
            exact ⟨by rw [HSp.out, HV.out]; rfl, HB.out⟩
theorem isV_0 (op : Int) : isV (spellS op).toList (ByteArray.toList ⟨#[112, 117, 115, 104]⟩) (ByteArray.toList ⟨#[108, 111, 97, 100]⟩) (ByteArray.toList ⟨#[115, 97, 118, 101]⟩) (ByteArray.toList ⟨#[97, 114, 103]⟩) = (decide (op = 1) || decide (op = 4) || decide (op = 5) || decide (op = 6)) := by
  have l0 : ByteArray.toList ⟨#[112, 117, 115, 104]⟩ = [112, 117, 115, 104] := by decide +kernel
  have l1 : ByteArray.toList ⟨#[108, 111, 97, 100]⟩ = [108, 111, 97, 100] := by decide +kernel
  have l2 : ByteArray.toList ⟨#[115, 97, 118, 101]⟩ = [115, 97, 118, 101] := by decide +kernel
  have l3 : ByteArray.toList ⟨#[97, 114, 103]⟩ = [97, 114, 103] := by decide +kernel
  rw [l0, l1, l2, l3]
  cases ho : isOpB op with
  | false =>
    have e : (spellS op).toList = [] := by rw [spellS_no ho]; decide +kernel
    have hr : op < 0 ∨ 37 ≤ op := by simp only [isOpB, Bool.and_eq_false_iff, decide_eq_false_iff_not] at ho; omega
    rw [e, decide_eq_false (show ¬ op = 1 by omega), decide_eq_false (show ¬ op = 4 by omega), decide_eq_false (show ¬ op = 5 by omega), decide_eq_false (show ¬ op = 6 by omega)]
    rfl
  | true =>
    rw [spellS_op ho]
    unfold isV
    rw [bne, nm_some ho, nm_at ho 1 rfl [112, 117, 115, 104] (by decide +kernel), nm_at ho 4 rfl [108, 111, 97, 100] (by decide +kernel), nm_at ho 5 rfl [115, 97, 118, 101] (by decide +kernel), nm_at ho 6 rfl [97, 114, 103] (by decide +kernel)]
    simp
theorem isV_1 (op : Int) : isV (spellS op).toList (ByteArray.toList ⟨#[103, 101, 116]⟩) (ByteArray.toList ⟨#[104, 97, 115]⟩) (ByteArray.toList ⟨#[106, 117, 109, 112]⟩) (ByteArray.toList ⟨#[122, 101, 114, 111]⟩) = (decide (op = 7) || decide (op = 8) || decide (op = 30) || decide (op = 31)) := by
  have l0 : ByteArray.toList ⟨#[103, 101, 116]⟩ = [103, 101, 116] := by decide +kernel
  have l1 : ByteArray.toList ⟨#[104, 97, 115]⟩ = [104, 97, 115] := by decide +kernel
  have l2 : ByteArray.toList ⟨#[106, 117, 109, 112]⟩ = [106, 117, 109, 112] := by decide +kernel
  have l3 : ByteArray.toList ⟨#[122, 101, 114, 111]⟩ = [122, 101, 114, 111] := by decide +kernel
  rw [l0, l1, l2, l3]
  cases ho : isOpB op with
  | false =>
    have e : (spellS op).toList = [] := by rw [spellS_no ho]; decide +kernel
    have hr : op < 0 ∨ 37 ≤ op := by simp only [isOpB, Bool.and_eq_false_iff, decide_eq_false_iff_not] at ho; omega
    rw [e, decide_eq_false (show ¬ op = 7 by omega), decide_eq_false (show ¬ op = 8 by omega), decide_eq_false (show ¬ op = 30 by omega), decide_eq_false (show ¬ op = 31 by omega)]
    rfl
  | true =>
    rw [spellS_op ho]
    unfold isV
    rw [bne, nm_some ho, nm_at ho 7 rfl [103, 101, 116] (by decide +kernel), nm_at ho 8 rfl [104, 97, 115] (by decide +kernel), nm_at ho 30 rfl [106, 117, 109, 112] (by decide +kernel), nm_at ho 31 rfl [122, 101, 114, 111] (by decide +kernel)]
    simp
theorem isV_2 (op : Int) : isV (spellS op).toList (ByteArray.toList ⟨#[112, 117, 116]⟩) (ByteArray.toList ⟨#[100, 101, 108]⟩) (ByteArray.toList ⟨#[]⟩) (ByteArray.toList ⟨#[]⟩) = (decide (op = 32) || decide (op = 33)) := by
  have l0 : ByteArray.toList ⟨#[112, 117, 116]⟩ = [112, 117, 116] := by decide +kernel
  have l1 : ByteArray.toList ⟨#[100, 101, 108]⟩ = [100, 101, 108] := by decide +kernel
  have l2 : ByteArray.toList ⟨#[]⟩ = [] := by decide +kernel
  have l3 : ByteArray.toList ⟨#[]⟩ = [] := by decide +kernel
  rw [l0, l1, l2]
  cases ho : isOpB op with
  | false =>
    have e : (spellS op).toList = [] := by rw [spellS_no ho]; decide +kernel
    have hr : op < 0 ∨ 37 ≤ op := by simp only [isOpB, Bool.and_eq_false_iff, decide_eq_false_iff_not] at ho; omega
    rw [e, decide_eq_false (show ¬ op = 32 by omega), decide_eq_false (show ¬ op = 33 by omega)]
    rfl
  | true =>
    rw [spellS_op ho]
    unfold isV
    rw [bne, nm_some ho, nm_at ho 32 rfl [112, 117, 116] (by decide +kernel), nm_at ho 33 rfl [100, 101, 108] (by decide +kernel)]
    simp
set_option maxHeartbeats 1000000 in
theorem refWants_any (w : World) (op : Int) : Calls Tryz.prog 40 #[.int .i64 op] w fun e w' => e = .returned (.bool (wantsB op)) ∧ Below w.heap.size w w' := by
  have HE : Hid (wantsB op = ((decide (op = 1) || decide (op = 4) || decide (op = 5) || decide (op = 6)) || (decide (op = 7) || decide (op = 8) || decide (op = 30) || decide (op = 31)) || (decide (op = 32) || decide (op = 33)))) := by
    show wantsB op = _; unfold wantsB; simp only [Bool.or_assoc]
  go_enter Tryz.func40, Tryz.ntmps40
  go_wp2_with fail
  refine (refIs_any w op ⟨#[112, 117, 115, 104]⟩ ⟨#[108, 111, 97, 100]⟩ ⟨#[115, 97, 118, 101]⟩ ⟨#[97, 114, 103]⟩).mono ?_
  rintro e w1 ⟨rfl, hb1⟩
  have HB1 : Hid (Below w.heap.size w w1) := hb1
  rw [isV_0]
  clear hb1
  obtain ⟨b1, h1⟩ : ∃ b, b = (decide (op = 1) || decide (op = 4) || decide (op = 5) || decide (op = 6)) := ⟨_, rfl⟩
  rw [← h1] at HE ⊢
  clear h1
  cases b1 with
  | true =>
    have HV : Hid (wantsB op = true) := by rw [HE.out]; rfl
    clear HE
    go_wp2
    go_ret
    exact ⟨by rw [HV.out]; rfl, HB1.out⟩
  | false =>
    go_wp2_with fail
    refine (refIs_any w1 op ⟨#[103, 101, 116]⟩ ⟨#[104, 97, 115]⟩ ⟨#[106, 117, 109, 112]⟩ ⟨#[122, 101, 114, 111]⟩).mono ?_
    rintro e w2 ⟨rfl, hb2⟩
    have HB2 : Hid (Below w.heap.size w w2) := HB1.out.trans (hb2.mono HB1.out.size)
    rw [isV_1]
    clear hb2 HB1
    obtain ⟨b2, h2⟩ : ∃ b, b = (decide (op = 7) || decide (op = 8) || decide (op = 30) || decide (op = 31)) := ⟨_, rfl⟩
    rw [← h2] at HE ⊢
    clear h2
    cases b2 with
    | true =>
      have HV : Hid (wantsB op = true) := by rw [HE.out]; rfl
      clear HE
      go_wp2
      go_ret
      exact ⟨by rw [HV.out]; rfl, HB2.out⟩
    | false =>
      go_wp2_with fail
      refine (refIs_any w2 op ⟨#[112, 117, 116]⟩ ⟨#[100, 101, 108]⟩ ⟨#[]⟩ ⟨#[]⟩).mono ?_
      rintro e w3 ⟨rfl, hb3⟩
      have HB3 : Hid (Below w.heap.size w w3) := HB2.out.trans (hb3.mono HB2.out.size)
      rw [isV_2]
      clear hb3 HB2
      obtain ⟨b3, h3⟩ : ∃ b, b = (decide (op = 32) || decide (op = 33)) := ⟨_, rfl⟩
      rw [← h3] at HE ⊢
      clear h3
      have HV : Hid (wantsB op = b3) := by rw [HE.out]; rfl
      clear HE
      go_wp2
      go_ret
      exact ⟨by rw [HV.out]; rfl, HB3.out⟩

end Go.Proofs.YtiiplikmoodfnaaGreatDoor
/-
  PLAIN MATHEMATICS OF NUMBERS AS TEXT (promise 1.9). No program, no dump.
-/
namespace Go.Proofs.YtiiplikmoodfnaaGreatDoor.Dec
open Go.Lib

theorem decDigits_rec (u : Nat) (h : ¬ u < 10) : decDigits u = decDigits (u / 10) ++ [UInt8.ofNat (48 + u % 10)] := by
  rw [decDigits, dif_neg h]
theorem digit_toNat (d : Nat) (h : d < 10) : (UInt8.ofNat (48 + d)).toNat = 48 + d := by
  rw [UInt8.toNat_ofNat']; omega
theorem decDigits_ne (u : Nat) : decDigits u ≠ [] := by
  rw [decDigits]; split <;> simp
/-- every sign is a digit -/
theorem decDigits_digit (u : Nat) : ∀ c ∈ decDigits u, 48 ≤ c.toNat ∧ c.toNat ≤ 57 := by
  induction u using Nat.strongRecOn with
  | _ u ih =>
    intro c hc
    by_cases h : u < 10
    · rw [decDigits_one h] at hc
      simp only [List.mem_cons, List.not_mem_nil, or_false] at hc
      subst hc; rw [digit_toNat u h]; omega
    · rw [decDigits_rec u h] at hc
      rcases List.mem_append.1 hc with h1 | h1
      · exact ih (u / 10) (by omega) c h1
      · simp only [List.mem_cons, List.not_mem_nil, or_false] at h1
        subst h1; rw [digit_toNat _ (by omega)]; omega

/-! strconv's reading -/
theorem parse_snoc (M : Nat) (c : UInt8) : ∀ (xs : List UInt8) (acc : Nat), parseUintM M acc (xs ++ [c]) = match parseUintM M acc xs with
    | .ok a => parseUintM M a [c]
    | e => e
  | [], acc => by simp [parseUintM]
  | x :: xs, acc => by
    simp only [List.cons_append, parseUintM]
    by_cases h1 : 48 ≤ x.toNat ∧ x.toNat ≤ 57
    · simp only [h1, and_self, if_true]
      by_cases h2 : 1844674407370955162 ≤ acc
      · simp [h2]
      · by_cases h3 : M < acc * 10 + (x.toNat - 48)
        · simp [h2, h3]
        · simp only [h2, h3, if_false]
          have := parse_snoc M c xs (acc * 10 + (x.toNat - 48))
          simpa [parseUintM] using this
    · simp [h1]
theorem parse_digits (u : Nat) (h : u < 18446744073709551616) : parseUintM (2 ^ 64 - 1) 0 (decDigits u) = .ok u := by
  induction u using Nat.strongRecOn with
  | _ u ih =>
    by_cases h10 : u < 10
    · rw [decDigits_one h10]
      simp only [parseUintM, digit_toNat u h10]
      rw [if_pos (by omega), if_neg (by omega), if_neg (by omega)]
      simp
    · rw [decDigits_rec u h10, parse_snoc, ih (u / 10) (by omega) (by omega)]
      simp only [parseUintM, digit_toNat (u % 10) (by omega)]
      rw [if_pos (by omega), if_neg (by omega), if_neg (by omega)]
      congr 1
      omega
theorem head_digit (u : Nat) : ∃ c r, decDigits u = c :: r ∧ 48 ≤ c.toNat ∧ c.toNat ≤ 57 := by
  have hd := decDigits_digit u
  cases h : decDigits u with
  | nil => exact absurd h (decDigits_ne u)
  | cons c r => rw [h] at hd; exact ⟨c, r, rfl, hd c (by simp)⟩
/-- a number's text is read back -/
theorem parse_itoa (n : Int) (h0 : -9223372036854775808 ≤ n) (h1 : n ≤ 9223372036854775807) : parseIntB 64 (itoa n) = .ok n := by
  unfold itoa
  by_cases hn : n < 0
  · rw [if_pos hn]
    simp only [parseIntB]
    have e : (45 : UInt8).toNat = 45 := rfl
    simp only [e, or_true, if_true, parseUintB]
    rw [if_neg (decDigits_ne _), parse_digits _ (by omega)]
    simp only [not_true, false_and, if_false, true_and]
    rw [if_neg (by omega)]
    congr 1
    omega
  · rw [if_neg hn]
    obtain ⟨c, r, hc, h48, h57⟩ := head_digit n.toNat
    have hp := parse_digits n.toNat (by omega)
    rw [hc] at hp ⊢
    simp only [parseIntB]
    rw [if_neg (by omega)]
    simp only [parseUintB]
    rw [if_neg (by simp), hp]
    have h45 : ¬ c.toNat = 45 := by omega
    simp only [h45, not_false_eq_true, true_and, false_and, if_false]
    rw [if_neg (by omega)]
    congr 1
    omega
theorem parse_bounds {l : List UInt8} {v : Int} (h : parseIntB 64 l = .ok v) : -9223372036854775808 ≤ v ∧ v ≤ 9223372036854775807 := by
  unfold parseIntB at h
  split at h
  · cases h
  · simp only at h
    split at h
    · cases h
    · cases h
    · split at h
      · cases h
      · split at h
        · cases h
        · rename_i h1 h2
          cases h
          split <;> omega

/-! the document's reckoning -/
def add1 (m : Nat) (c : UInt8) : Nat := if 48 ≤ c.toNat ∧ c.toNat ≤ 57 then (10 * m + (c.toNat - 48)) % 18446744073709551616 else m
def mag (l : List UInt8) : Nat := l.foldl add1 0
theorem mag_digits (u : Nat) (h : u < 18446744073709551616) : (decDigits u).foldl add1 0 = u := by
  induction u using Nat.strongRecOn with
  | _ u ih =>
    by_cases h10 : u < 10
    · rw [decDigits_one h10]
      simp only [List.foldl_cons, List.foldl_nil, add1, digit_toNat u h10]
      rw [if_pos (by omega)]
      omega
    · rw [decDigits_rec u h10, List.foldl_append, ih (u / 10) (by omega) (by omega)]
      simp only [List.foldl_cons, List.foldl_nil, add1, digit_toNat (u % 10) (by omega)]
      rw [if_pos (by omega)]
      omega
theorem add1_lt (m : Nat) (c : UInt8) (h : m < 18446744073709551616) : add1 m c < 18446744073709551616 := by
  unfold add1; split <;> omega
theorem mag_lt (l : List UInt8) : ∀ m, m < 18446744073709551616 → l.foldl add1 m < 18446744073709551616 := by
  induction l with
  | nil => intro m h; exact h
  | cons c l ih => intro m h; exact ih _ (add1_lt m c h)
/-- as int64 -/
def asInt (m : Nat) : Int := if m < 9223372036854775808 then (m : Int) else (m : Int) - 18446744073709551616
/-- the number that a text may be: reckoned of its first twenty signs, then the sign -/
def cand (l : List UInt8) : Int :=
  asInt (if l.head? = some 45 then (18446744073709551616 - mag (l.take 20)) % 18446744073709551616 else mag (l.take 20))
theorem cand_bounds (l : List UInt8) : -9223372036854775808 ≤ cand l ∧ cand l ≤ 9223372036854775807 := by
  have h := mag_lt (l.take 20) 0 (by omega)
  have h' : mag (l.take 20) < 18446744073709551616 := h
  unfold cand asInt
  split <;> split <;> omega
theorem len_digits (u : Nat) (h : u ≤ 9223372036854775808) : (decDigits u).length ≤ 19 := by
  have key : ∀ k u, u < 10 ^ (k + 1) → (decDigits u).length ≤ k + 1 := by
    intro k
    induction k with
    | zero => intro u hu; rw [decDigits_one (by simpa using hu)]; simp
    | succ k ih =>
      intro u hu
      by_cases h10 : u < 10
      · rw [decDigits_one h10]; simp
      · rw [decDigits_rec u h10, List.length_append]
        have := ih (u / 10) (by rw [Nat.pow_succ] at hu; omega)
        simp only [List.length_cons, List.length_nil]
        omega
  exact key 18 u (by omega)
theorem cand_itoa (n : Int) (h0 : -9223372036854775808 ≤ n) (h1 : n ≤ 9223372036854775807) : cand (itoa n) = n := by
  unfold itoa
  by_cases hn : n < 0
  · rw [if_pos hn]
    have hl := len_digits n.natAbs (by omega)
    have hm := mag_digits n.natAbs (by omega)
    unfold cand
    rw [List.take_of_length_le (by simp; omega)]
    have e : mag (45 :: decDigits n.natAbs) = n.natAbs := by
      unfold mag
      rw [List.foldl_cons, show add1 0 45 = 0 from rfl]
      exact hm
    rw [e]
    simp only [List.head?_cons, if_true, asInt]
    split <;> omega
  · rw [if_neg hn]
    have hl := len_digits n.toNat (by omega)
    have hm := mag_digits n.toNat (by omega)
    unfold cand
    rw [List.take_of_length_le (by omega)]
    have e : mag (decDigits n.toNat) = n.toNat := hm
    rw [e]
    obtain ⟨c, r, hc, h48, h57⟩ := head_digit n.toNat
    have hne : ¬ (decDigits n.toNat).head? = some 45 := by
      rw [hc]
      intro h
      simp only [List.head?_cons, Option.some.injEq] at h
      subst h
      exact absurd h48 (by decide)
    rw [if_neg hne]
    unfold asInt
    rw [if_pos (by omega)]
    omega

/-- WHAT Number ANSWERS, by the program's way and by the document's: one. -/
def num1 (l : List UInt8) : Int × Bool := match parseIntB 64 l with
  | .ok v => if itoa v = l then (v, true) else (0, false)
  | _ => (0, false)
def num2 (l : List UInt8) : Int × Bool := if itoa (cand l) = l then (cand l, true) else (0, false)
theorem num_same (l : List UInt8) : num1 l = num2 l := by
  unfold num1 num2
  by_cases h : itoa (cand l) = l
  · rw [if_pos h]
    have hb := cand_bounds l
    have hp := parse_itoa (cand l) hb.1 hb.2
    rw [h] at hp
    rw [hp]
    simp only [h, if_true]
  · rw [if_neg h]
    split
    · rename_i v hv
      have hb := parse_bounds hv
      by_cases h2 : itoa v = l
      · exfalso
        apply h
        rw [← h2, cand_itoa v hb.1 hb.2]
      · rw [if_neg h2]
    · rfl
theorem num1_itoa (n : Int) (h0 : -9223372036854775808 ≤ n) (h1 : n ≤ 9223372036854775807) : num1 (itoa n) = (n, true) := by
  unfold num1
  rw [parse_itoa n h0 h1]
  simp

end Go.Proofs.YtiiplikmoodfnaaGreatDoor.Dec
