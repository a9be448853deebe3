import Derived.Test.YtkjmeknaedapjaaDoorK07
import Derived.Laws.Tables
import Derived.Deep.MidRow
import Derived.RangeFuncNested
import Derived.RangeFuncBound
import Derived.RangeFuncCalls
import Derived.RangeFuncLeaves
import Derived.RangeFuncBox
import Derived.Shelf.Abstract
import Derived.Shelf.RegionOpen
import Derived.WalkKit
import Derived.OwnWalkIn
import Derived.TacticsInMore
import Derived.LoopNIn
import Derived.LoopIn
import Derived.RegionIn
/-
  THE NAMES OF THE INSTRUCTIONS.
-/
namespace Go.Proofs.YtkjmeknaedapjaaDoor
open Go.RowKit Go.Sort

def nmL : List ByteArray := [⟨#[115, 116, 111, 112]⟩, ⟨#[112, 117, 115, 104]⟩, ⟨#[112, 111, 112]⟩, ⟨#[100, 117, 112]⟩, ⟨#[108, 111, 97, 100]⟩, ⟨#[115, 97, 118, 101]⟩, ⟨#[97, 114, 103]⟩, ⟨#[103, 101, 116]⟩, ⟨#[104, 97, 115]⟩, ⟨#[103, 101, 116, 120]⟩, ⟨#[97, 100, 100]⟩, ⟨#[115, 117, 98]⟩, ⟨#[109, 117, 108]⟩, ⟨#[100, 105, 118]⟩, ⟨#[109, 111, 100]⟩, ⟨#[97, 110, 100]⟩, ⟨#[111, 114]⟩, ⟨#[120, 111, 114]⟩, ⟨#[115, 104, 108]⟩, ⟨#[115, 104, 114]⟩, ⟨#[110, 101, 103]⟩, ⟨#[110, 111, 116]⟩, ⟨#[101, 113]⟩, ⟨#[110, 101]⟩, ⟨#[108, 116]⟩, ⟨#[108, 101]⟩, ⟨#[103, 116]⟩, ⟨#[103, 101]⟩, ⟨#[109, 105, 110]⟩, ⟨#[109, 97, 120]⟩, ⟨#[106, 117, 109, 112]⟩, ⟨#[122, 101, 114, 111]⟩, ⟨#[112, 117, 116]⟩, ⟨#[100, 101, 108]⟩, ⟨#[112, 117, 116, 120]⟩, ⟨#[111, 117, 116]⟩, ⟨#[97, 98, 111, 114, 116]⟩]
def nmOf (op : Int) : ByteArray := nmL.getD op.toNat ⟨#[]⟩
def nmCells : Array Value := #[.string ⟨#[115, 116, 111, 112]⟩, .string ⟨#[112, 117, 115, 104]⟩, .string ⟨#[112, 111, 112]⟩, .string ⟨#[100, 117, 112]⟩, .string ⟨#[108, 111, 97, 100]⟩, .string ⟨#[115, 97, 118, 101]⟩, .string ⟨#[97, 114, 103]⟩, .string ⟨#[103, 101, 116]⟩, .string ⟨#[104, 97, 115]⟩, .string ⟨#[103, 101, 116, 120]⟩, .string ⟨#[97, 100, 100]⟩, .string ⟨#[115, 117, 98]⟩, .string ⟨#[109, 117, 108]⟩, .string ⟨#[100, 105, 118]⟩, .string ⟨#[109, 111, 100]⟩, .string ⟨#[97, 110, 100]⟩, .string ⟨#[111, 114]⟩, .string ⟨#[120, 111, 114]⟩, .string ⟨#[115, 104, 108]⟩, .string ⟨#[115, 104, 114]⟩, .string ⟨#[110, 101, 103]⟩, .string ⟨#[110, 111, 116]⟩, .string ⟨#[101, 113]⟩, .string ⟨#[110, 101]⟩, .string ⟨#[108, 116]⟩, .string ⟨#[108, 101]⟩, .string ⟨#[103, 116]⟩, .string ⟨#[103, 101]⟩, .string ⟨#[109, 105, 110]⟩, .string ⟨#[109, 97, 120]⟩, .string ⟨#[106, 117, 109, 112]⟩, .string ⟨#[122, 101, 114, 111]⟩, .string ⟨#[112, 117, 116]⟩, .string ⟨#[100, 101, 108]⟩, .string ⟨#[112, 117, 116, 120]⟩, .string ⟨#[111, 117, 116]⟩, .string ⟨#[97, 98, 111, 114, 116]⟩]
theorem nmCells_eq : nmCells = (nmL.map Value.string).toArray := rfl
theorem nmCells_get (i : Nat) (h : i < 37) : nmCells[i]? = some (.string (nmOf (i : Int))) := by
  have hl : nmL.length = 37 := rfl
  rw [nmCells_eq]
  simp [nmOf, List.getD_eq_getElem?_getD, List.getElem?_eq_getElem (show i < nmL.length by omega)]
theorem wpList_built {P : Program} {ops : Array Oper} {rest : List Oper} {o : Oper} {a : Act} {w : World} {Q : Exit → Act → World → Prop} (hg : o.guard = none) (t : TypeId) (parts : Array (Nat × Operand)) (ho : o.op = .build t parts) (cells : Array Value)
    (hc : P.built t (parts.map fun (i, x) => (i, a.eval x)).toList = some cells) (h : wpList P ops Q rest (a.put o.dst (.agg cells)) w) : wpList P ops Q (o :: rest) a w := by
  refine wpList_build hg t parts ho (by rw [hc]; rfl) ?_
  rw [hc]; exact h

set_option maxHeartbeats 400000 in
set_option maxRecDepth 100000 in
theorem refNames_any (w : World) : Calls Tryd.prog 102 #[] w fun e w' => e = .returned (.agg nmCells) ∧ Below w.heap.size w w' := by
  go_enter Tryd.func102, Tryd.ntmps102
  go_wp2_with (first | (refine wpList_built rfl 142 _ rfl nmCells (by kernel_rfl) ?_) | (refine wpList_store_row rfl _ _ _ rfl w.heap.size nmCells rfl rfl 142 _ (heap_alloc_new _ _ rfl) (by kernel_rfl) (by kernel_rfl) (by kernel_rfl) ?_))
  have hh := setRow_heap _ w.heap.size _ nmCells 142 (0, 0) (heap_alloc_new (w := w) (.cells #[.string ⟨#[]⟩, .string ⟨#[]⟩, .string ⟨#[]⟩, .string ⟨#[]⟩, .string ⟨#[]⟩, .string ⟨#[]⟩, .string ⟨#[]⟩, .string ⟨#[]⟩, .string ⟨#[]⟩, .string ⟨#[]⟩, .string ⟨#[]⟩, .string ⟨#[]⟩, .string ⟨#[]⟩, .string ⟨#[]⟩, .string ⟨#[]⟩, .string ⟨#[]⟩, .string ⟨#[]⟩, .string ⟨#[]⟩, .string ⟨#[]⟩, .string ⟨#[]⟩, .string ⟨#[]⟩, .string ⟨#[]⟩, .string ⟨#[]⟩, .string ⟨#[]⟩, .string ⟨#[]⟩, .string ⟨#[]⟩, .string ⟨#[]⟩, .string ⟨#[]⟩, .string ⟨#[]⟩, .string ⟨#[]⟩, .string ⟨#[]⟩, .string ⟨#[]⟩, .string ⟨#[]⟩, .string ⟨#[]⟩, .string ⟨#[]⟩, .string ⟨#[]⟩, .string ⟨#[]⟩] 142) w.heap.size rfl)
  have HB : Hid (Below w.heap.size w ((w.alloc (.cells #[.string ⟨#[]⟩, .string ⟨#[]⟩, .string ⟨#[]⟩, .string ⟨#[]⟩, .string ⟨#[]⟩, .string ⟨#[]⟩, .string ⟨#[]⟩, .string ⟨#[]⟩, .string ⟨#[]⟩, .string ⟨#[]⟩, .string ⟨#[]⟩, .string ⟨#[]⟩, .string ⟨#[]⟩, .string ⟨#[]⟩, .string ⟨#[]⟩, .string ⟨#[]⟩, .string ⟨#[]⟩, .string ⟨#[]⟩, .string ⟨#[]⟩, .string ⟨#[]⟩, .string ⟨#[]⟩, .string ⟨#[]⟩, .string ⟨#[]⟩, .string ⟨#[]⟩, .string ⟨#[]⟩, .string ⟨#[]⟩, .string ⟨#[]⟩, .string ⟨#[]⟩, .string ⟨#[]⟩, .string ⟨#[]⟩, .string ⟨#[]⟩, .string ⟨#[]⟩, .string ⟨#[]⟩, .string ⟨#[]⟩, .string ⟨#[]⟩, .string ⟨#[]⟩, .string ⟨#[]⟩] 142)).setRow w.heap.size nmCells)) := ((Below.refl _ _).alloc (Nat.le_refl _) _).trans (below_setRow _ (Nat.le_refl _))
  generalize (w.alloc (.cells #[.string ⟨#[]⟩, .string ⟨#[]⟩, .string ⟨#[]⟩, .string ⟨#[]⟩, .string ⟨#[]⟩, .string ⟨#[]⟩, .string ⟨#[]⟩, .string ⟨#[]⟩, .string ⟨#[]⟩, .string ⟨#[]⟩, .string ⟨#[]⟩, .string ⟨#[]⟩, .string ⟨#[]⟩, .string ⟨#[]⟩, .string ⟨#[]⟩, .string ⟨#[]⟩, .string ⟨#[]⟩, .string ⟨#[]⟩, .string ⟨#[]⟩, .string ⟨#[]⟩, .string ⟨#[]⟩, .string ⟨#[]⟩, .string ⟨#[]⟩, .string ⟨#[]⟩, .string ⟨#[]⟩, .string ⟨#[]⟩, .string ⟨#[]⟩, .string ⟨#[]⟩, .string ⟨#[]⟩, .string ⟨#[]⟩, .string ⟨#[]⟩, .string ⟨#[]⟩, .string ⟨#[]⟩, .string ⟨#[]⟩, .string ⟨#[]⟩, .string ⟨#[]⟩, .string ⟨#[]⟩] 142)).setRow w.heap.size nmCells = W at *
  have hr := World.rangeAt_of_block hh 0 37
  have e : (nmCells.extract 0 (0 + 37)).toList = nmCells.toList := by rfl
  rw [e] at hr
  have hld := run_loadVar_mid (P := Tryd.prog) W w.heap.size 0 142 nmCells.toList _ hr Tryd.underlying142 rfl (by kernel_rfl)
  refine bodyPost_ret (v := .agg nmCells) ?_ rfl ⟨rfl, HB.out⟩
  simp [results, Tryd.results102, Act.put, asAddr, hld]

def spellS (op : Int) : ByteArray := if isOpB op then nmOf op else ⟨#[]⟩
theorem spellS_op {op : Int} (h : isOpB op = true) : spellS op = nmOf op := by rw [spellS, h]; rfl
theorem spellS_no {op : Int} (h : isOpB op = false) : spellS op = ⟨#[]⟩ := by rw [spellS, h]; rfl
set_option maxHeartbeats 400000 in
set_option maxRecDepth 100000 in
theorem refSpell_any (w : World) (op : Int) : Calls Tryd.prog 92 #[.int .i64 op] w fun e w' => e = .returned (.string (spellS op)) ∧ Below w.heap.size w w' := by
  by_cases h0 : op < 0
  · go_enter Tryd.func92, Tryd.ntmps92
    have HE : Hid (spellS op = ⟨#[]⟩) := spellS_no (by simp [isOpB]; omega)
    go_wp2
    go_ret
    exact ⟨by rw [HE.out]; rfl, Below.refl _ _⟩
  · have h0' : decide (op < 0) = false := by simpa using h0
    by_cases h1 : 37 ≤ op
    · go_enter Tryd.func92, Tryd.ntmps92
      have HE : Hid (spellS op = ⟨#[]⟩) := spellS_no (by simp [isOpB]; omega)
      go_wp2
      go_ret
      exact ⟨by rw [HE.out]; rfl, Below.refl _ _⟩
    · have h1' : decide (37 ≤ op) = false := by simpa using h1
      obtain ⟨i, rfl⟩ : ∃ i : Nat, op = (i : Int) := ⟨op.toNat, by omega⟩
      have hi : i < 37 := by omega
      have HX : Hid (spellS (i : Int) = nmOf (i : Int)) := spellS_op (by simp [isOpB]; omega)
      have HC := nmCells_get i hi
      generalize nmOf (i : Int) = s at *
      go_enter Tryd.func92, Tryd.ntmps92
      go_wp2_with fail
      refine (refNames_any _).mono ?_
      rintro e w1 ⟨rfl, hb1⟩
      have HB1 : Hid (Below w.heap.size w w1) := hb1
      have HNm : Hid (nmCells[i]? = some (.string s)) := HC
      clear hb1 HC
      have hcell : ((w1.alloc (.cells #[.string ⟨#[]⟩, .string ⟨#[]⟩, .string ⟨#[]⟩, .string ⟨#[]⟩, .string ⟨#[]⟩, .string ⟨#[]⟩, .string ⟨#[]⟩, .string ⟨#[]⟩, .string ⟨#[]⟩, .string ⟨#[]⟩, .string ⟨#[]⟩, .string ⟨#[]⟩, .string ⟨#[]⟩, .string ⟨#[]⟩, .string ⟨#[]⟩, .string ⟨#[]⟩, .string ⟨#[]⟩, .string ⟨#[]⟩, .string ⟨#[]⟩, .string ⟨#[]⟩, .string ⟨#[]⟩, .string ⟨#[]⟩, .string ⟨#[]⟩, .string ⟨#[]⟩, .string ⟨#[]⟩, .string ⟨#[]⟩, .string ⟨#[]⟩, .string ⟨#[]⟩, .string ⟨#[]⟩, .string ⟨#[]⟩, .string ⟨#[]⟩, .string ⟨#[]⟩, .string ⟨#[]⟩, .string ⟨#[]⟩, .string ⟨#[]⟩, .string ⟨#[]⟩, .string ⟨#[]⟩] 142)).setRow w1.heap.size nmCells).cell? ⟨w1.heap.size, i, none⟩ = some (.string s) := (cell_setRow_same _ w1.heap.size i _ nmCells 142 (0, 0) (heap_alloc_new _ _ rfl)).trans HNm.out
      have HB2 : Hid (Below w.heap.size w ((w1.alloc (.cells #[.string ⟨#[]⟩, .string ⟨#[]⟩, .string ⟨#[]⟩, .string ⟨#[]⟩, .string ⟨#[]⟩, .string ⟨#[]⟩, .string ⟨#[]⟩, .string ⟨#[]⟩, .string ⟨#[]⟩, .string ⟨#[]⟩, .string ⟨#[]⟩, .string ⟨#[]⟩, .string ⟨#[]⟩, .string ⟨#[]⟩, .string ⟨#[]⟩, .string ⟨#[]⟩, .string ⟨#[]⟩, .string ⟨#[]⟩, .string ⟨#[]⟩, .string ⟨#[]⟩, .string ⟨#[]⟩, .string ⟨#[]⟩, .string ⟨#[]⟩, .string ⟨#[]⟩, .string ⟨#[]⟩, .string ⟨#[]⟩, .string ⟨#[]⟩, .string ⟨#[]⟩, .string ⟨#[]⟩, .string ⟨#[]⟩, .string ⟨#[]⟩, .string ⟨#[]⟩, .string ⟨#[]⟩, .string ⟨#[]⟩, .string ⟨#[]⟩, .string ⟨#[]⟩, .string ⟨#[]⟩] 142)).setRow w1.heap.size nmCells)) := (HB1.out.alloc HB1.out.size _).trans (below_setRow _ HB1.out.size)
      go_wp2_with (refine wpList_store_row rfl _ _ _ rfl w1.heap.size nmCells rfl rfl 142 _ (heap_alloc_new _ _ rfl) (by kernel_rfl) (by kernel_rfl) (by kernel_rfl) ?_)
      go_ret
      exact ⟨by rw [HX.out]; rfl, HB2.out⟩

/-- texts and numbers -/
theorem nm_ne {i j : Int} (hi : isOpB i = true) (hj : isOpB j = true) : nmOf i = nmOf j ↔ i = j := by
  constructor
  · intro h
    have hd : ∀ a b : Fin 37, (nmL.getD a.val ⟨#[]⟩).data.toList = (nmL.getD b.val ⟨#[]⟩).data.toList → a = b := by decide +kernel
    simp only [isOpB, Bool.and_eq_true, decide_eq_true_eq] at hi hj
    have h2 := hd ⟨i.toNat, by omega⟩ ⟨j.toNat, by omega⟩ (by rw [show nmL.getD i.toNat ⟨#[]⟩ = nmL.getD j.toNat ⟨#[]⟩ from h])
    simp at h2
    omega
  · rintro rfl; rfl

end Go.Proofs.YtkjmeknaedapjaaDoor
/-
  THE WALKS OF THE DOCUMENT's Takes, is, argument, Next, limits.
-/
namespace Go.Proofs.YtkjmeknaedapjaaDoor
open Go.RowKit Go.Sort

theorem ba_toList {a b : ByteArray} (h : a.toList = b.toList) : a = b := by
  rw [ByteArray.toList_eq, ByteArray.toList_eq] at h
  have h2 : a.data = b.data := Array.toList_inj.1 h
  cases a; cases b; simp only at h2; rw [h2]
theorem nm_at {op : Int} (h : isOpB op = true) (j : Int) (hj : isOpB j = true) (l : List UInt8) (hl : (nmOf j).toList = l) : ((nmOf op).toList == l) = decide (op = j) := by
  subst hl
  by_cases e : op = j
  · subst e; simp
  · rw [decide_eq_false e, beq_eq_false_iff_ne]
    intro h2
    exact e ((nm_ne h hj).1 (ba_toList h2))
theorem nm_some {op : Int} (h : isOpB op = true) : ((nmOf op).toList == []) = false := by
  rw [beq_eq_false_iff_ne]
  intro h2
  rcases op_cases h with rfl | rfl | rfl | rfl | rfl | rfl | rfl | rfl | rfl | rfl | rfl | rfl | rfl | rfl | rfl | rfl | rfl | rfl | rfl | rfl | rfl | rfl | rfl | rfl | rfl | rfl | rfl | rfl | rfl | rfl | rfl | rfl | rfl | rfl | rfl | rfl | rfl <;> revert h2 <;> decide +kernel

set_option maxHeartbeats 2000000 in
theorem refTakes_any (w : World) (op : Int) (h : isOpB op = true) :
    Calls Tryd.prog 98 #[.int .i64 op] w fun e w' => e = .returned (.tuple #[.int .i64 (takesN op), .int .i64 (leavesN op)]) ∧ Below w.heap.size w w' := by
  go_enter Tryd.func98, Tryd.ntmps98
  go_wp2_with fail
  refine (refSpell_any _ _).mono ?_
  rintro e w1 ⟨rfl, hb1⟩
  rw [spellS_op h]
  have HB : Hid (Below w.heap.size w w1) := hb1
  have q0 := nm_at h 0 rfl [115, 116, 111, 112] (by decide +kernel)
  have q33 := nm_at h 33 rfl [100, 101, 108] (by decide +kernel)
  have q30 := nm_at h 30 rfl [106, 117, 109, 112] (by decide +kernel)
  have q1 := nm_at h 1 rfl [112, 117, 115, 104] (by decide +kernel)
  have q4 := nm_at h 4 rfl [108, 111, 97, 100] (by decide +kernel)
  have q6 := nm_at h 6 rfl [97, 114, 103] (by decide +kernel)
  have q7 := nm_at h 7 rfl [103, 101, 116] (by decide +kernel)
  have q8 := nm_at h 8 rfl [104, 97, 115] (by decide +kernel)
  have q2 := nm_at h 2 rfl [112, 111, 112] (by decide +kernel)
  have q5 := nm_at h 5 rfl [115, 97, 118, 101] (by decide +kernel)
  have q31 := nm_at h 31 rfl [122, 101, 114, 111] (by decide +kernel)
  have q32 := nm_at h 32 rfl [112, 117, 116] (by decide +kernel)
  have q35 := nm_at h 35 rfl [111, 117, 116] (by decide +kernel)
  have q36 := nm_at h 36 rfl [97, 98, 111, 114, 116] (by decide +kernel)
  have q9 := nm_at h 9 rfl [103, 101, 116, 120] (by decide +kernel)
  have q20 := nm_at h 20 rfl [110, 101, 103] (by decide +kernel)
  have q21 := nm_at h 21 rfl [110, 111, 116] (by decide +kernel)
  have q3 := nm_at h 3 rfl [100, 117, 112] (by decide +kernel)
  have q34 := nm_at h 34 rfl [112, 117, 116, 120] (by decide +kernel)
  clear hb1
  rcases op_cases h with rfl | rfl | rfl | rfl | rfl | rfl | rfl | rfl | rfl | rfl | rfl | rfl | rfl | rfl | rfl | rfl | rfl | rfl | rfl | rfl | rfl | rfl | rfl | rfl | rfl | rfl | rfl | rfl | rfl | rfl | rfl | rfl | rfl | rfl | rfl | rfl | rfl <;> clear h <;>
  (go_wp2
   go_ret2
   exact ⟨rfl, HB.out⟩)

/-- is it a jump? -/
theorem refIs_jump (w : World) (op : Int) (h : isOpB op = true) :
    Calls Tryd.prog 96 #[.int .i64 op, .string ⟨#[106, 117, 109, 112]⟩, .string ⟨#[122, 101, 114, 111]⟩, .string ⟨#[]⟩, .string ⟨#[]⟩] w fun e w' => e = .returned (.bool (jumpB op)) ∧ Below w.heap.size w w' := by
  go_enter Tryd.func96, Tryd.ntmps96
  go_wp2_with fail
  refine (refSpell_any _ _).mono ?_
  rintro e w1 ⟨rfl, hb1⟩
  rw [spellS_op h]
  have HB : Hid (Below w.heap.size w w1) := hb1
  have q := nm_some h
  have q30 := nm_at h 30 rfl [106, 117, 109, 112] (by decide +kernel)
  have q31 := nm_at h 31 rfl [122, 101, 114, 111] (by decide +kernel)
  clear hb1 h
  by_cases h30 : op = 30
  · rw [decide_eq_true h30] at q30
    subst h30
    go_wp2
    go_ret
    exact ⟨rfl, HB.out⟩
  · rw [decide_eq_false h30] at q30
    by_cases h31 : op = 31
    · rw [decide_eq_true h31] at q31
      subst h31
      go_wp2
      go_ret
      exact ⟨rfl, HB.out⟩
    · rw [decide_eq_false h31] at q31
      have HJ : Hid (jumpB op = false) := by simp [jumpB, h30, h31, Hid]
      go_wp2
      go_ret
      exact ⟨by rw [HJ.out]; rfl, HB.out⟩

theorem lim_ref (p : Nums) (n : Nat) : limB p n = true ↔ ¬ (p.args < 0) ∧ ¬ (16 < p.args) ∧ ¬ (p.reads < 0) ∧ ¬ (16 < p.reads) ∧ ¬ (p.writes < 0) ∧ ¬ (16 < p.writes) ∧ 0 ≤ p.locals ∧ p.locals ≤ 16 ∧ (n : Int) ≤ 256 := by rw [limB_iff]; omega
set_option maxHeartbeats 2000000 in
theorem refLimits_any (w : World) (p : Nums) (ao : Option Addr) (n cap : Nat) :
    Calls Tryd.prog 61 #[pv p ao n cap] w fun e w' => e = .returned (.bool (limB p n)) ∧ ∃ q os, w' = grow (w.drewN q) os := by
  have HE : Hid (∀ b : Bool, limB p n = b → limB p n = b) := fun b h => h
  obtain ⟨x1, x2, x3, x4⟩ := p
  go_enter Tryd.func61, Tryd.ntmps61
  by_cases h0 : x1 < 0
  case pos =>
    go_wp2
    go_ret
    refine ⟨by rw [HE.out false (by rw [← Bool.not_eq_true, lim_ref]; simp only; omega)]; rfl, Grew.alloc (Grew.refl _) _⟩
  have h0b : decide (x1 < 0) = false := by simpa using h0
  by_cases h1 : 16 < x1
  case pos =>
    go_wp2
    go_ret
    refine ⟨by rw [HE.out false (by rw [← Bool.not_eq_true, lim_ref]; simp only; omega)]; rfl, Grew.alloc (Grew.refl _) _⟩
  have h1b : decide (16 < x1) = false := by simpa using h1
  by_cases h2 : x2 < 0
  case pos =>
    go_wp2
    go_ret
    refine ⟨by rw [HE.out false (by rw [← Bool.not_eq_true, lim_ref]; simp only; omega)]; rfl, Grew.alloc (Grew.refl _) _⟩
  have h2b : decide (x2 < 0) = false := by simpa using h2
  by_cases h3 : 16 < x2
  case pos =>
    go_wp2
    go_ret
    refine ⟨by rw [HE.out false (by rw [← Bool.not_eq_true, lim_ref]; simp only; omega)]; rfl, Grew.alloc (Grew.refl _) _⟩
  have h3b : decide (16 < x2) = false := by simpa using h3
  by_cases h4 : x3 < 0
  case pos =>
    go_wp2
    go_ret
    refine ⟨by rw [HE.out false (by rw [← Bool.not_eq_true, lim_ref]; simp only; omega)]; rfl, Grew.alloc (Grew.refl _) _⟩
  have h4b : decide (x3 < 0) = false := by simpa using h4
  by_cases h5 : 16 < x3
  case pos =>
    go_wp2
    go_ret
    refine ⟨by rw [HE.out false (by rw [← Bool.not_eq_true, lim_ref]; simp only; omega)]; rfl, Grew.alloc (Grew.refl _) _⟩
  have h5b : decide (16 < x3) = false := by simpa using h5
  by_cases h6 : 0 ≤ x4
  case neg =>
    have h6b : decide (0 ≤ x4) = false := by simpa using h6
    go_wp2
    go_ret
    refine ⟨by rw [HE.out false (by rw [← Bool.not_eq_true, lim_ref]; simp only; omega)]; rfl, Grew.alloc (Grew.refl _) _⟩
  by_cases h7 : x4 ≤ 16
  case neg =>
    have h7b : decide (x4 ≤ 16) = false := by simpa using h7
    go_wp2
    go_ret
    refine ⟨by rw [HE.out false (by rw [← Bool.not_eq_true, lim_ref]; simp only; omega)]; rfl, Grew.alloc (Grew.refl _) _⟩
  by_cases h8 : (n : Int) ≤ 256
  case neg =>
    have h8b : decide ((n : Int) ≤ 256) = false := by simpa using h8
    go_wp2
    go_ret
    refine ⟨by rw [HE.out false (by rw [← Bool.not_eq_true, lim_ref]; simp only; omega)]; rfl, Grew.alloc (Grew.refl _) _⟩
  go_wp2
  go_ret
  refine ⟨by rw [HE.out true (by rw [lim_ref]; simp only; omega)]; rfl, Grew.alloc (Grew.refl _) _⟩

end Go.Proofs.YtkjmeknaedapjaaDoor
/-
  A REGION THAT DRAWS ITS ORDER AND ONLY READS, IN THE ROUND OF A LOOP OVER A FUNCTION: as outside a round, where no operation is a defer.
-/
namespace Go.Proofs.YtkjmeknaedapjaaDoor
open Go.RowKit Go.Sort

def noDefer (o : Oper) : Bool := match o.op with
  | .defer _ => false
  | _ => true
theorem noDefer_ne {o : Oper} (h : noDefer o = true) : ∀ c, o.op ≠ .defer c := by
  intro c e
  unfold noDefer at h
  rw [e] at h
  simp at h
theorem wpIn_round {F : Fence} {n l : Nat} {P : Program} {o : Oper} {a : Act} {w : World} {K : Act → World → Prop} {Q : Exit → Act → World → Prop} (hro : F.round = none) (hd : noDefer o = true) (h : o.wpIn F n P a w K Q) : o.wpIn (F.inRound l) n P a w K Q := by
  obtain ⟨h1, h2⟩ := h
  refine ⟨h1, ?_⟩
  rw [hro, Oper.semAt_none] at h2
  rw [Fence.inRound_round, Oper.semAt_some l _ _ (noDefer_ne hd)]
  generalize (execOp a.eval o).run P w = r at *
  cases r with
  | ok x w' => cases x <;> exact h2
  | halt x w' => cases x <;> exact h2
theorem wpAny_round {F : Fence} {n l : Nat} {P : Program} {md : Region.Mode} {ops : Array Oper} {Q : Exit → Act → World → Prop} (hro : F.round = none) (hd : ops.all noDefer = true) :
    ∀ (fuel : Nat) (listed : Array Bool) (a : Act) (w : World), wpAnyIn F n P md ops Q fuel listed a w → wpAnyIn (F.inRound l) n P md ops Q fuel listed a w
  | 0, _, _, _, h => h
  | fuel + 1, listed, a, w, h => ⟨h.1, fun i hi => by
    have h2 := h.2 i hi
    unfold wpOpIn at h2 ⊢
    cases ho : ops[i]? with
    | none => rw [ho] at h2; exact wpAny_round hro hd fuel _ _ _ h2
    | some o =>
      rw [ho] at h2
      have hn : noDefer o = true := by
        have h3 := Array.all_eq_true.1 hd
        obtain ⟨hlt, he⟩ := Array.getElem?_eq_some_iff.1 ho
        rw [← he]; exact h3 i hlt
      simp only at h2 ⊢
      split
      · rename_i hw
        rw [if_pos hw] at h2
        exact wpIn_round hro hn (Oper.wpIn_mono (fun a w hk => wpAny_round hro hd fuel _ a w hk) h2)
      · rename_i hw
        rw [if_neg hw] at h2
        exact ⟨h2.1, wpAny_round hro hd fuel _ _ _ h2.2⟩⟩
theorem region_round {F : Fence} {n l : Nat} {P : Program} {id : Nat} {Q : Exit → Act → World → Prop} {a : Act} {w : World} {ops : List Oper} (hro : F.round = none) (hm : P.follows .mixedOrders = true) (hB : Region.lexB .any ops.toArray = true) (hd : ops.toArray.all noDefer = true)
    (h : wpQuietIn F n P ops.toArray (fun w' => ∃ n, w' = w.drewN n) (fun a' => ∀ w', (∃ n, w' = w.drewN n) → Q .normal a' w') ops a) : (Code.region id ops.toArray true).wpIn (F.inRound l) n P Q a w := by
  simp only [Region.lexB, Bool.and_eq_true] at hB
  refine wpIn_region_any hm (wpAny_round hro hd _ _ _ _ (wpAnyIn_of_quiet (Q := fun a' => ∀ w', (∃ n, w' = w.drewN n) → Q .normal a' w') hro (fun _ w' hw' h => h w' hw') _ _ _ _ ⟨1, rfl⟩ ?_))
  have := wpAnyQIn_lex (F := F) (n := n) (C := fun w' => ∃ n, w' = w.drewN n) (md := .any) hB.1 ops 0 (Array.replicate ops.toArray.size false) a (by simp) (by simpa using hB.2) h
  simpa using this

/-- a loop over a function, whichever way it ends: what holds behind it -/
theorem loop_cut {F : Fence} {n : Nat} {P : Program} {c : Code} {Q : Exit → Act → World → Prop} {a : Act} {w : World} (id : Nat) (Post : World → Prop) (hex : ∀ a w, Q .normal a w → Q (.exit id) a w)
    (h : c.wpIn F n P (fun e a' w' => (e = .normal ∨ e = .exit id) ∧ ∃ D, w.heap.size ≤ D ∧ a' = { a with defers := { target := .collected D, args := #[] } :: a.defers } ∧ Post w' ∧ w'.heap[D]? = some (.deferred (some []))) a w)
    (hk : ∀ D W, w.heap.size ≤ D → Post W → W.heap[D]? = some (.deferred (some [])) → Q .normal { a with defers := { target := .collected D, args := #[] } :: a.defers } W) : c.wpIn F n P Q a w := by
  refine Code.wpIn_mono ?_ h
  rintro e a' w' ⟨he, D, hD, rfl, hp, hd⟩
  rcases he with rfl | rfl
  · exact hk D w' hD hp hd
  · exact hex _ _ (hk D w' hD hp hd)
end Go.Proofs.YtkjmeknaedapjaaDoor
