/-
  THE NAMES OF THE INSTRUCTIONS.
-/
import Derived.Test.YtkpggbjibngplaaLDepths
import Derived.Laws.Tables
import Derived.Deep.MidRow
namespace Go.Proofs.Ytkpggbjibngplaa
open Go.RowKit Go.Sort

def nmL : List ByteArray := [⟨#[115, 116, 111, 112]⟩, ⟨#[112, 117, 115, 104]⟩, ⟨#[112, 111, 112]⟩, ⟨#[100, 117, 112]⟩, ⟨#[108, 111, 97, 100]⟩, ⟨#[115, 97, 118, 101]⟩, ⟨#[97, 114, 103]⟩, ⟨#[103, 101, 116]⟩, ⟨#[104, 97, 115]⟩, ⟨#[103, 101, 116, 120]⟩, ⟨#[97, 100, 100]⟩, ⟨#[115, 117, 98]⟩, ⟨#[109, 117, 108]⟩, ⟨#[100, 105, 118]⟩, ⟨#[109, 111, 100]⟩, ⟨#[97, 110, 100]⟩, ⟨#[111, 114]⟩, ⟨#[120, 111, 114]⟩, ⟨#[115, 104, 108]⟩, ⟨#[115, 104, 114]⟩, ⟨#[110, 101, 103]⟩, ⟨#[110, 111, 116]⟩, ⟨#[101, 113]⟩, ⟨#[110, 101]⟩, ⟨#[108, 116]⟩, ⟨#[108, 101]⟩, ⟨#[103, 116]⟩, ⟨#[103, 101]⟩, ⟨#[109, 105, 110]⟩, ⟨#[109, 97, 120]⟩, ⟨#[106, 117, 109, 112]⟩, ⟨#[122, 101, 114, 111]⟩, ⟨#[112, 117, 116]⟩, ⟨#[100, 101, 108]⟩, ⟨#[112, 117, 116, 120]⟩, ⟨#[111, 117, 116]⟩, ⟨#[97, 98, 111, 114, 116]⟩]
def nmOf (op : Int) : ByteArray := nmL.getD op.toNat ⟨#[]⟩
def nmCells : Array Value := #[.string ⟨#[115, 116, 111, 112]⟩, .string ⟨#[112, 117, 115, 104]⟩, .string ⟨#[112, 111, 112]⟩, .string ⟨#[100, 117, 112]⟩, .string ⟨#[108, 111, 97, 100]⟩, .string ⟨#[115, 97, 118, 101]⟩, .string ⟨#[97, 114, 103]⟩, .string ⟨#[103, 101, 116]⟩, .string ⟨#[104, 97, 115]⟩, .string ⟨#[103, 101, 116, 120]⟩, .string ⟨#[97, 100, 100]⟩, .string ⟨#[115, 117, 98]⟩, .string ⟨#[109, 117, 108]⟩, .string ⟨#[100, 105, 118]⟩, .string ⟨#[109, 111, 100]⟩, .string ⟨#[97, 110, 100]⟩, .string ⟨#[111, 114]⟩, .string ⟨#[120, 111, 114]⟩, .string ⟨#[115, 104, 108]⟩, .string ⟨#[115, 104, 114]⟩, .string ⟨#[110, 101, 103]⟩, .string ⟨#[110, 111, 116]⟩, .string ⟨#[101, 113]⟩, .string ⟨#[110, 101]⟩, .string ⟨#[108, 116]⟩, .string ⟨#[108, 101]⟩, .string ⟨#[103, 116]⟩, .string ⟨#[103, 101]⟩, .string ⟨#[109, 105, 110]⟩, .string ⟨#[109, 97, 120]⟩, .string ⟨#[106, 117, 109, 112]⟩, .string ⟨#[122, 101, 114, 111]⟩, .string ⟨#[112, 117, 116]⟩, .string ⟨#[100, 101, 108]⟩, .string ⟨#[112, 117, 116, 120]⟩, .string ⟨#[111, 117, 116]⟩, .string ⟨#[97, 98, 111, 114, 116]⟩]
theorem nmCells_eq : nmCells = (nmL.map Value.string).toArray := rfl
theorem nmCells_get (i : Nat) (h : i < 37) : nmCells[i]? = some (.string (nmOf (i : Int))) := by
  have hl : nmL.length = 37 := rfl
  rw [nmCells_eq]
  simp [nmOf, List.getD_eq_getElem?_getD, List.getElem?_eq_getElem (show i < nmL.length by omega)]
theorem wpList_built {P : Program} {ops : Array Oper} {rest : List Oper} {o : Oper} {a : Act} {w : World} {Q : Exit → Act → World → Prop} (hg : o.guard = none) (t : TypeId) (parts : Array (Nat × Operand)) (ho : o.op = .build t parts) (cells : Array Value)
    (hc : P.built t (parts.map fun (i, x) => (i, a.eval x)).toList = some cells) (h : wpList P ops Q rest (a.put o.dst (.agg cells)) w) : wpList P ops Q (o :: rest) a w := by
  refine wpList_build hg t parts ho (by rw [hc]; rfl) ?_
  rw [hc]; exact h

set_option maxHeartbeats 400000 in
set_option maxRecDepth 100000 in
theorem refNames_any (w : World) : Calls Try.prog 50 #[] w fun e w' => e = .returned (.agg nmCells) ∧ Below w.heap.size w w' := by
  go_enter Try.func50, Try.ntmps50
  go_wp2_with (first | (refine wpList_built rfl 134 _ rfl nmCells (by kernel_rfl) ?_) | (refine wpList_store_row rfl _ _ _ rfl w.heap.size nmCells rfl rfl 134 _ (heap_alloc_new _ _ rfl) (by kernel_rfl) (by kernel_rfl) (by kernel_rfl) ?_))
  have hh := setRow_heap _ w.heap.size _ nmCells 134 (0, 0) (heap_alloc_new (w := w) (.cells #[.string ⟨#[]⟩, .string ⟨#[]⟩, .string ⟨#[]⟩, .string ⟨#[]⟩, .string ⟨#[]⟩, .string ⟨#[]⟩, .string ⟨#[]⟩, .string ⟨#[]⟩, .string ⟨#[]⟩, .string ⟨#[]⟩, .string ⟨#[]⟩, .string ⟨#[]⟩, .string ⟨#[]⟩, .string ⟨#[]⟩, .string ⟨#[]⟩, .string ⟨#[]⟩, .string ⟨#[]⟩, .string ⟨#[]⟩, .string ⟨#[]⟩, .string ⟨#[]⟩, .string ⟨#[]⟩, .string ⟨#[]⟩, .string ⟨#[]⟩, .string ⟨#[]⟩, .string ⟨#[]⟩, .string ⟨#[]⟩, .string ⟨#[]⟩, .string ⟨#[]⟩, .string ⟨#[]⟩, .string ⟨#[]⟩, .string ⟨#[]⟩, .string ⟨#[]⟩, .string ⟨#[]⟩, .string ⟨#[]⟩, .string ⟨#[]⟩, .string ⟨#[]⟩, .string ⟨#[]⟩] 134) w.heap.size rfl)
  have HB : Hid (Below w.heap.size w ((w.alloc (.cells #[.string ⟨#[]⟩, .string ⟨#[]⟩, .string ⟨#[]⟩, .string ⟨#[]⟩, .string ⟨#[]⟩, .string ⟨#[]⟩, .string ⟨#[]⟩, .string ⟨#[]⟩, .string ⟨#[]⟩, .string ⟨#[]⟩, .string ⟨#[]⟩, .string ⟨#[]⟩, .string ⟨#[]⟩, .string ⟨#[]⟩, .string ⟨#[]⟩, .string ⟨#[]⟩, .string ⟨#[]⟩, .string ⟨#[]⟩, .string ⟨#[]⟩, .string ⟨#[]⟩, .string ⟨#[]⟩, .string ⟨#[]⟩, .string ⟨#[]⟩, .string ⟨#[]⟩, .string ⟨#[]⟩, .string ⟨#[]⟩, .string ⟨#[]⟩, .string ⟨#[]⟩, .string ⟨#[]⟩, .string ⟨#[]⟩, .string ⟨#[]⟩, .string ⟨#[]⟩, .string ⟨#[]⟩, .string ⟨#[]⟩, .string ⟨#[]⟩, .string ⟨#[]⟩, .string ⟨#[]⟩] 134)).setRow w.heap.size nmCells)) := ((Below.refl _ _).alloc (Nat.le_refl _) _).trans (below_setRow _ (Nat.le_refl _))
  generalize (w.alloc (.cells #[.string ⟨#[]⟩, .string ⟨#[]⟩, .string ⟨#[]⟩, .string ⟨#[]⟩, .string ⟨#[]⟩, .string ⟨#[]⟩, .string ⟨#[]⟩, .string ⟨#[]⟩, .string ⟨#[]⟩, .string ⟨#[]⟩, .string ⟨#[]⟩, .string ⟨#[]⟩, .string ⟨#[]⟩, .string ⟨#[]⟩, .string ⟨#[]⟩, .string ⟨#[]⟩, .string ⟨#[]⟩, .string ⟨#[]⟩, .string ⟨#[]⟩, .string ⟨#[]⟩, .string ⟨#[]⟩, .string ⟨#[]⟩, .string ⟨#[]⟩, .string ⟨#[]⟩, .string ⟨#[]⟩, .string ⟨#[]⟩, .string ⟨#[]⟩, .string ⟨#[]⟩, .string ⟨#[]⟩, .string ⟨#[]⟩, .string ⟨#[]⟩, .string ⟨#[]⟩, .string ⟨#[]⟩, .string ⟨#[]⟩, .string ⟨#[]⟩, .string ⟨#[]⟩, .string ⟨#[]⟩] 134)).setRow w.heap.size nmCells = W at *
  have hr := World.rangeAt_of_block hh 0 37
  have e : (nmCells.extract 0 (0 + 37)).toList = nmCells.toList := by rfl
  rw [e] at hr
  have hld := run_loadVar_mid (P := Try.prog) W w.heap.size 0 134 nmCells.toList _ hr Try.underlying134 rfl (by kernel_rfl)
  refine bodyPost_ret (v := .agg nmCells) ?_ rfl ⟨rfl, HB.out⟩
  simp [results, Try.results50, Act.put, asAddr, hld]

def spellS (op : Int) : ByteArray := if isOpB op then nmOf op else ⟨#[]⟩
theorem spellS_op {op : Int} (h : isOpB op = true) : spellS op = nmOf op := by rw [spellS, h]; rfl
theorem spellS_no {op : Int} (h : isOpB op = false) : spellS op = ⟨#[]⟩ := by rw [spellS, h]; rfl
set_option maxHeartbeats 400000 in
set_option maxRecDepth 100000 in
theorem refSpell_any (w : World) (op : Int) : Calls Try.prog 48 #[.int .i64 op] w fun e w' => e = .returned (.string (spellS op)) ∧ Below w.heap.size w w' := by
  by_cases h0 : op < 0
  · go_enter Try.func48, Try.ntmps48
    have HE : Hid (spellS op = ⟨#[]⟩) := spellS_no (by simp [isOpB]; omega)
    go_wp2
    go_ret
    exact ⟨by rw [HE.out]; rfl, Below.refl _ _⟩
  · have h0' : decide (op < 0) = false := by simpa using h0
    by_cases h1 : 37 ≤ op
    · go_enter Try.func48, Try.ntmps48
      have HE : Hid (spellS op = ⟨#[]⟩) := spellS_no (by simp [isOpB]; omega)
      go_wp2
      go_ret
      exact ⟨by rw [HE.out]; rfl, Below.refl _ _⟩
    · have h1' : decide (37 ≤ op) = false := by simpa using h1
      obtain ⟨i, rfl⟩ : ∃ i : Nat, op = (i : Int) := ⟨op.toNat, by omega⟩
      have hi : i < 37 := by omega
      have HX : Hid (spellS (i : Int) = nmOf (i : Int)) := spellS_op (by simp [isOpB]; omega)
      have HC := nmCells_get i hi
      generalize nmOf (i : Int) = s at *
      go_enter Try.func48, Try.ntmps48
      go_wp2_with fail
      refine (refNames_any _).mono ?_
      rintro e w1 ⟨rfl, hb1⟩
      have HB1 : Hid (Below w.heap.size w w1) := hb1
      have HNm : Hid (nmCells[i]? = some (.string s)) := HC
      clear hb1 HC
      have hcell : ((w1.alloc (.cells #[.string ⟨#[]⟩, .string ⟨#[]⟩, .string ⟨#[]⟩, .string ⟨#[]⟩, .string ⟨#[]⟩, .string ⟨#[]⟩, .string ⟨#[]⟩, .string ⟨#[]⟩, .string ⟨#[]⟩, .string ⟨#[]⟩, .string ⟨#[]⟩, .string ⟨#[]⟩, .string ⟨#[]⟩, .string ⟨#[]⟩, .string ⟨#[]⟩, .string ⟨#[]⟩, .string ⟨#[]⟩, .string ⟨#[]⟩, .string ⟨#[]⟩, .string ⟨#[]⟩, .string ⟨#[]⟩, .string ⟨#[]⟩, .string ⟨#[]⟩, .string ⟨#[]⟩, .string ⟨#[]⟩, .string ⟨#[]⟩, .string ⟨#[]⟩, .string ⟨#[]⟩, .string ⟨#[]⟩, .string ⟨#[]⟩, .string ⟨#[]⟩, .string ⟨#[]⟩, .string ⟨#[]⟩, .string ⟨#[]⟩, .string ⟨#[]⟩, .string ⟨#[]⟩, .string ⟨#[]⟩] 134)).setRow w1.heap.size nmCells).cell? ⟨w1.heap.size, i, none⟩ = some (.string s) := (cell_setRow_same _ w1.heap.size i _ nmCells 134 (0, 0) (heap_alloc_new _ _ rfl)).trans HNm.out
      have HB2 : Hid (Below w.heap.size w ((w1.alloc (.cells #[.string ⟨#[]⟩, .string ⟨#[]⟩, .string ⟨#[]⟩, .string ⟨#[]⟩, .string ⟨#[]⟩, .string ⟨#[]⟩, .string ⟨#[]⟩, .string ⟨#[]⟩, .string ⟨#[]⟩, .string ⟨#[]⟩, .string ⟨#[]⟩, .string ⟨#[]⟩, .string ⟨#[]⟩, .string ⟨#[]⟩, .string ⟨#[]⟩, .string ⟨#[]⟩, .string ⟨#[]⟩, .string ⟨#[]⟩, .string ⟨#[]⟩, .string ⟨#[]⟩, .string ⟨#[]⟩, .string ⟨#[]⟩, .string ⟨#[]⟩, .string ⟨#[]⟩, .string ⟨#[]⟩, .string ⟨#[]⟩, .string ⟨#[]⟩, .string ⟨#[]⟩, .string ⟨#[]⟩, .string ⟨#[]⟩, .string ⟨#[]⟩, .string ⟨#[]⟩, .string ⟨#[]⟩, .string ⟨#[]⟩, .string ⟨#[]⟩, .string ⟨#[]⟩, .string ⟨#[]⟩] 134)).setRow w1.heap.size nmCells)) := (HB1.out.alloc HB1.out.size _).trans (below_setRow _ HB1.out.size)
      go_wp2_with (refine wpList_store_row rfl _ _ _ rfl w1.heap.size nmCells rfl rfl 134 _ (heap_alloc_new _ _ rfl) (by kernel_rfl) (by kernel_rfl) (by kernel_rfl) ?_)
      go_ret
      exact ⟨by rw [HX.out]; rfl, HB2.out⟩

/-- texts and numbers -/
theorem nm_ne {i j : Int} (hi : isOpB i = true) (hj : isOpB j = true) : nmOf i = nmOf j ↔ i = j := by
  constructor
  · intro h
    have hd : ∀ a b : Fin 37, (nmL.getD a.val ⟨#[]⟩).data.toList = (nmL.getD b.val ⟨#[]⟩).data.toList → a = b := by decide +kernel
    simp only [isOpB, Bool.and_eq_true, decide_eq_true_eq] at hi hj
    have h2 := hd ⟨i.toNat, by omega⟩ ⟨j.toNat, by omega⟩ (by rw [show nmL.getD i.toNat ⟨#[]⟩ = nmL.getD j.toNat ⟨#[]⟩ from h])
    simp at h2
    omega
  · rintro rfl; rfl

end Go.Proofs.Ytkpggbjibngplaa
