/-
  THE WALKS OF Spell, Op, Wants.
-/
import Derived.Test.YtjmlogljfboleaaDoorLNames
namespace Go.Proofs.YtjmlogljfboleaaDoor
open Go.RowKit Go.Sort

/-- THE TABLE OF NAMES -/
def NmAt (W : World) : Prop := ∀ i, i < 37 → W.cell? ⟨0, i, none⟩ = some (.string (nmOf (i : Int)))
theorem NmAt.kept {W W' : World} (h : NmAt W) (hb : Below W.heap.size W W') : NmAt W' := fun i hi => by
  rw [hb.cell (p := ⟨0, i, none⟩) (cell_lt (h i hi))]; exact h i hi
theorem NmAt.range {W : World} (h : NmAt W) : W.rangeAt 0 0 nmCells.toList := by
  intro j v hv
  have hj : j < 37 := (List.getElem?_eq_some_iff.1 hv).1
  have e := nmCells_get j hj
  rw [Array.getElem?_toList] at hv
  rw [e] at hv
  rw [Nat.zero_add, h j hj]
  exact hv
set_option maxRecDepth 100000 in
theorem nm_index (k : Nat) (hk : k < 37) : ∀ w, (Go.Instr.index 55 (.agg nmCells) (.int .i64 (k : Int))).run Tryd.prog w = .ok (.string (nmOf (k : Int))) w := by
  obtain rfl | rfl | rfl | rfl | rfl | rfl | rfl | rfl | rfl | rfl | rfl | rfl | rfl | rfl | rfl | rfl | rfl | rfl | rfl | rfl | rfl | rfl | rfl | rfl | rfl | rfl | rfl | rfl | rfl | rfl | rfl | rfl | rfl | rfl | rfl | rfl | rfl : k = 0 ∨ k = 1 ∨ k = 2 ∨ k = 3 ∨ k = 4 ∨ k = 5 ∨ k = 6 ∨ k = 7 ∨ k = 8 ∨ k = 9 ∨ k = 10 ∨ k = 11 ∨ k = 12 ∨ k = 13 ∨ k = 14 ∨ k = 15 ∨ k = 16 ∨ k = 17 ∨ k = 18 ∨ k = 19 ∨ k = 20 ∨ k = 21 ∨ k = 22 ∨ k = 23 ∨ k = 24 ∨ k = 25 ∨ k = 26 ∨ k = 27 ∨ k = 28 ∨ k = 29 ∨ k = 30 ∨ k = 31 ∨ k = 32 ∨ k = 33 ∨ k = 34 ∨ k = 35 ∨ k = 36 := by omega
  all_goals exact fun _ => by kernel_rfl
set_option maxHeartbeats 400000 in
theorem spell_any (w : World) (op : Int) (h : NmAt w) : Calls Tryd.prog 7 #[.int .i64 op] w fun e w' => e = .returned (.string (spellS op)) ∧ w' = w := by
  cases ho : isOpB op with
  | false =>
    have HE : Hid (spellS op = ⟨#[]⟩) := spellS_no ho
    go_enter Tryd.func7, Tryd.ntmps7
    go_wp2_with fail
    refine (isOp_any w op).mono ?_
    rintro e w1 ⟨rfl, rfl⟩
    rw [ho]
    go_wp2
    go_ret
    exact ⟨by rw [HE.out]; rfl, rfl⟩
  | true =>
    have HE : Hid (spellS op = nmOf op) := spellS_op ho
    have ho' := ho
    simp only [isOpB, Bool.and_eq_true, decide_eq_true_eq] at ho'
    obtain ⟨i, rfl⟩ := Int.eq_ofNat_of_zero_le ho'.1
    have hi : i < 37 := by omega
    have c := h i hi
    generalize nmOf (i : Int) = s at *
    go_enter Tryd.func7, Tryd.ntmps7
    go_wp2_with fail
    refine (isOp_any w i).mono ?_
    rintro e w1 ⟨rfl, rfl⟩
    rw [ho]
    go_wp2
    go_ret
    exact ⟨by rw [HE.out]; rfl, rfl⟩
/-- the first instruction of a name -/
def findN (s : ByteArray) : Nat → Option Nat
  | 0 => none
  | k + 1 => match findN s k with
    | some i => some i
    | none => if ((nmOf (k : Int)).toList == s.toList) = true then some k else none
def opR (s : ByteArray) : Nat × Bool := match findN s 37 with
  | some i => (i, true)
  | none => (0, false)
theorem find_stop {s : ByteArray} {k n : Nat} (h : findN s k = none) (hk : ((nmOf (k : Int)).toList == s.toList) = true) (hn : k < n) : findN s n = some k := by
  induction n with
  | zero => omega
  | succ n ih =>
    unfold findN
    by_cases e : k = n
    · subst e; rw [h]; simp only [hk, if_true]
    · rw [ih (by omega)]
theorem find_next {s : ByteArray} {k : Nat} (h : findN s k = none) (hk : ((nmOf (k : Int)).toList == s.toList) = false) : findN s (k + 1) = none := by
  unfold findN; rw [h]; simp [hk]
set_option maxRecDepth 100000 in
set_option maxHeartbeats 1000000 in
theorem op_any (w : World) (s : ByteArray) (h : NmAt w) : Calls Tryd.prog 5 #[.string s] w fun e w' => e = .returned (.tuple #[.int .i64 ((opR s).1 : Int), .bool (opR s).2]) ∧ w' = w := by
  have HR : Hid (w.rangeAt 0 0 nmCells.toList) := h.range
  clear h
  go_enter Tryd.func5, Tryd.ntmps5
  go_wp2_with (refine wpList_load_mid rfl 55 _ rfl 0 0 rfl nmCells.toList _ HR.out Tryd.underlying55 rfl (by kernel_rfl) ?_)
  obtain ⟨nc, hnc⟩ : ∃ nc, nc = nmCells := ⟨_, rfl⟩
  rw [← hnc]
  have HNc : Hid (nmCells = nc) := hnc.symm
  clear hnc
  go_loop [7] (fun x => ∃ k : Nat, k ≤ 37 ∧ x = .int .i64 (k : Int) ∧ Hid (findN s k = none)) (fun x => 37 - (intOf x).toNat)
  case atStart => exact ⟨0, by omega, rfl, rfl⟩
  case round =>
    obtain ⟨k, hk, rfl, HA⟩ := hrel
    by_cases hlt : k < 37
    · have hix := nm_index k hlt
      rw [HNc.out] at hix
      have HS : Hid (((nmOf (k : Int)).toList == s.toList) = true → opR s = (k, true)) := fun h => by unfold opR; rw [find_stop HA.out h hlt]
      have HT : Hid (((nmOf (k : Int)).toList == s.toList) = false → findN s (k + 1) = none) := find_next HA.out
      generalize nmOf (k : Int) = nm at *
      cases hq : nm.toList == s.toList with
      | true =>
        have HV : Hid (opR s = (k, true)) := HS.out hq
        go_wp2
        go_ret2
        exact ⟨by rw [HV.out]; rfl, rfl⟩
      | false =>
        have HV : Hid (findN s (k + 1) = none) := HT.out hq
        go_wp2
        go_round
        case rel => exact ⟨k + 1, by omega, by go_num, HV⟩
        case measure => simp [intOf]; omega
    · obtain rfl : k = 37 := by omega
      have HV : Hid (opR s = (0, false)) := by show opR s = _; unfold opR; rw [HA.out]
      go_wp2
      go_ret2
      exact ⟨by rw [HV.out]; rfl, rfl⟩
end Go.Proofs.YtjmlogljfboleaaDoor
