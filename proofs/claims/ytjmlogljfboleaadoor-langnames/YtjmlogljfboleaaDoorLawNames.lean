/-
  THE WALKS OF Wants, OF THE DOCUMENT'S Op, is, Wants, OF LangNames.
-/
import Derived.Test.YtjmlogljfboleaaDoorLNm
import Derived.Test.YtjmlogljfboleaaDoorLRef1
namespace Go.Proofs.YtjmlogljfboleaaDoor
open Go.RowKit Go.Sort

def wantsB (op : Int) : Bool := decide (op = 1) || decide (op = 4) || decide (op = 5) || decide (op = 6) || decide (op = 7) || decide (op = 8) || decide (op = 30) || decide (op = 31) || decide (op = 32) || decide (op = 33)
theorem wants_any (w : World) (op : Int) : Calls Tryd.prog 9 #[.int .i64 op] w fun e w' => e = .returned (.bool (wantsB op)) ∧ w' = w := by
  by_cases h : op = 1 ∨ op = 4 ∨ op = 5 ∨ op = 6 ∨ op = 7 ∨ op = 8 ∨ op = 30 ∨ op = 31 ∨ op = 32 ∨ op = 33
  · rcases h with rfl | rfl | rfl | rfl | rfl | rfl | rfl | rfl | rfl | rfl
    all_goals
      go_enter Tryd.func9, Tryd.ntmps9
      go_wp2
      go_ret
      exact ⟨rfl, rfl⟩
  · have HE : Hid (wantsB op = false) := by
      show wantsB op = false
      simp only [not_or] at h
      obtain ⟨h1, h4, h5, h6, h7, h8, h30, h31, h32, h33⟩ := h
      unfold wantsB
      rw [decide_eq_false h1, decide_eq_false h4, decide_eq_false h5, decide_eq_false h6, decide_eq_false h7, decide_eq_false h8, decide_eq_false h30, decide_eq_false h31, decide_eq_false h32, decide_eq_false h33]
      rfl
    have e1 : (op == 1) = false := by simp; omega
    have e4 : (op == 4) = false := by simp; omega
    have e5 : (op == 5) = false := by simp; omega
    have e6 : (op == 6) = false := by simp; omega
    have e7 : (op == 7) = false := by simp; omega
    have e8 : (op == 8) = false := by simp; omega
    have e30 : (op == 30) = false := by simp; omega
    have e31 : (op == 31) = false := by simp; omega
    have e32 : (op == 32) = false := by simp; omega
    have e33 : (op == 33) = false := by simp; omega
    clear h
    go_enter Tryd.func9, Tryd.ntmps9
    go_wp2
    go_ret
    exact ⟨by rw [HE.out]; rfl, rfl⟩

set_option maxRecDepth 100000 in
set_option maxHeartbeats 1000000 in
theorem refOp_any (w : World) (s : ByteArray) : Calls Tryd.prog 6 #[.string s] w fun e w' => e = .returned (.tuple #[.int .i64 ((opR s).1 : Int), .bool (opR s).2]) ∧ Below w.heap.size w w' := by
  go_enter Tryd.func6, Tryd.ntmps6
  go_wp2_with fail
  refine (refNames_any _).mono ?_
  rintro e w1 ⟨rfl, hb1⟩
  have hw2 : ∀ i, i < 37 → ((w1.alloc (.cells #[.string ⟨#[]⟩, .string ⟨#[]⟩, .string ⟨#[]⟩, .string ⟨#[]⟩, .string ⟨#[]⟩, .string ⟨#[]⟩, .string ⟨#[]⟩, .string ⟨#[]⟩, .string ⟨#[]⟩, .string ⟨#[]⟩, .string ⟨#[]⟩, .string ⟨#[]⟩, .string ⟨#[]⟩, .string ⟨#[]⟩, .string ⟨#[]⟩, .string ⟨#[]⟩, .string ⟨#[]⟩, .string ⟨#[]⟩, .string ⟨#[]⟩, .string ⟨#[]⟩, .string ⟨#[]⟩, .string ⟨#[]⟩, .string ⟨#[]⟩, .string ⟨#[]⟩, .string ⟨#[]⟩, .string ⟨#[]⟩, .string ⟨#[]⟩, .string ⟨#[]⟩, .string ⟨#[]⟩, .string ⟨#[]⟩, .string ⟨#[]⟩, .string ⟨#[]⟩, .string ⟨#[]⟩, .string ⟨#[]⟩, .string ⟨#[]⟩, .string ⟨#[]⟩, .string ⟨#[]⟩] 55)).setRow w1.heap.size nmCells).cell? ⟨w1.heap.size, i, none⟩ = some (.string (nmOf (i : Int))) := fun i hi => by
    rw [cell_setRow_same _ _ _ _ nmCells _ _ (heap_alloc_new (w := w1) (.cells #[.string ⟨#[]⟩, .string ⟨#[]⟩, .string ⟨#[]⟩, .string ⟨#[]⟩, .string ⟨#[]⟩, .string ⟨#[]⟩, .string ⟨#[]⟩, .string ⟨#[]⟩, .string ⟨#[]⟩, .string ⟨#[]⟩, .string ⟨#[]⟩, .string ⟨#[]⟩, .string ⟨#[]⟩, .string ⟨#[]⟩, .string ⟨#[]⟩, .string ⟨#[]⟩, .string ⟨#[]⟩, .string ⟨#[]⟩, .string ⟨#[]⟩, .string ⟨#[]⟩, .string ⟨#[]⟩, .string ⟨#[]⟩, .string ⟨#[]⟩, .string ⟨#[]⟩, .string ⟨#[]⟩, .string ⟨#[]⟩, .string ⟨#[]⟩, .string ⟨#[]⟩, .string ⟨#[]⟩, .string ⟨#[]⟩, .string ⟨#[]⟩, .string ⟨#[]⟩, .string ⟨#[]⟩, .string ⟨#[]⟩, .string ⟨#[]⟩, .string ⟨#[]⟩, .string ⟨#[]⟩] 55) _ rfl)]
    exact nmCells_get i hi
  have HC : Hid (∀ i, i < 37 → ((w1.alloc (.cells #[.string ⟨#[]⟩, .string ⟨#[]⟩, .string ⟨#[]⟩, .string ⟨#[]⟩, .string ⟨#[]⟩, .string ⟨#[]⟩, .string ⟨#[]⟩, .string ⟨#[]⟩, .string ⟨#[]⟩, .string ⟨#[]⟩, .string ⟨#[]⟩, .string ⟨#[]⟩, .string ⟨#[]⟩, .string ⟨#[]⟩, .string ⟨#[]⟩, .string ⟨#[]⟩, .string ⟨#[]⟩, .string ⟨#[]⟩, .string ⟨#[]⟩, .string ⟨#[]⟩, .string ⟨#[]⟩, .string ⟨#[]⟩, .string ⟨#[]⟩, .string ⟨#[]⟩, .string ⟨#[]⟩, .string ⟨#[]⟩, .string ⟨#[]⟩, .string ⟨#[]⟩, .string ⟨#[]⟩, .string ⟨#[]⟩, .string ⟨#[]⟩, .string ⟨#[]⟩, .string ⟨#[]⟩, .string ⟨#[]⟩, .string ⟨#[]⟩, .string ⟨#[]⟩, .string ⟨#[]⟩] 55)).setRow w1.heap.size nmCells).cell? ⟨w1.heap.size, i, none⟩ = some (.string (nmOf (i : Int)))) := hw2
  have HB : Hid (Below w.heap.size w ((w1.alloc (.cells #[.string ⟨#[]⟩, .string ⟨#[]⟩, .string ⟨#[]⟩, .string ⟨#[]⟩, .string ⟨#[]⟩, .string ⟨#[]⟩, .string ⟨#[]⟩, .string ⟨#[]⟩, .string ⟨#[]⟩, .string ⟨#[]⟩, .string ⟨#[]⟩, .string ⟨#[]⟩, .string ⟨#[]⟩, .string ⟨#[]⟩, .string ⟨#[]⟩, .string ⟨#[]⟩, .string ⟨#[]⟩, .string ⟨#[]⟩, .string ⟨#[]⟩, .string ⟨#[]⟩, .string ⟨#[]⟩, .string ⟨#[]⟩, .string ⟨#[]⟩, .string ⟨#[]⟩, .string ⟨#[]⟩, .string ⟨#[]⟩, .string ⟨#[]⟩, .string ⟨#[]⟩, .string ⟨#[]⟩, .string ⟨#[]⟩, .string ⟨#[]⟩, .string ⟨#[]⟩, .string ⟨#[]⟩, .string ⟨#[]⟩, .string ⟨#[]⟩, .string ⟨#[]⟩, .string ⟨#[]⟩] 55)).setRow w1.heap.size nmCells)) := hb1.trans (((Below.refl w.heap.size w1).alloc hb1.size _).trans ⟨rfl, rfl, rfl, by simp, fun k hk => setRow_other _ _ _ _ (by have := hb1.size; omega)⟩)
  clear hw2 hb1
  go_wp2_with (refine wpList_store_row rfl _ _ _ rfl w1.heap.size nmCells rfl rfl 55 _ (heap_alloc_new _ _ rfl) (by kernel_rfl) (by kernel_rfl) (by kernel_rfl) ?_)
  generalize (w1.alloc (.cells #[.string ⟨#[]⟩, .string ⟨#[]⟩, .string ⟨#[]⟩, .string ⟨#[]⟩, .string ⟨#[]⟩, .string ⟨#[]⟩, .string ⟨#[]⟩, .string ⟨#[]⟩, .string ⟨#[]⟩, .string ⟨#[]⟩, .string ⟨#[]⟩, .string ⟨#[]⟩, .string ⟨#[]⟩, .string ⟨#[]⟩, .string ⟨#[]⟩, .string ⟨#[]⟩, .string ⟨#[]⟩, .string ⟨#[]⟩, .string ⟨#[]⟩, .string ⟨#[]⟩, .string ⟨#[]⟩, .string ⟨#[]⟩, .string ⟨#[]⟩, .string ⟨#[]⟩, .string ⟨#[]⟩, .string ⟨#[]⟩, .string ⟨#[]⟩, .string ⟨#[]⟩, .string ⟨#[]⟩, .string ⟨#[]⟩, .string ⟨#[]⟩, .string ⟨#[]⟩, .string ⟨#[]⟩, .string ⟨#[]⟩, .string ⟨#[]⟩, .string ⟨#[]⟩, .string ⟨#[]⟩] 55)).setRow w1.heap.size nmCells = W2 at *
  generalize w1.heap.size = G at *
  obtain ⟨nc, hnc⟩ : ∃ nc, nc = nmCells := ⟨_, rfl⟩
  rw [← hnc]
  clear hnc
  go_loop [5] (fun x => ∃ k : Nat, k ≤ 37 ∧ x = .int .i64 (k : Int) ∧ Hid (findN s k = none)) (fun x => 37 - (intOf x).toNat)
  case atStart => exact ⟨0, by omega, rfl, rfl⟩
  case round =>
    obtain ⟨k, hk, rfl, HA⟩ := hrel
    by_cases hlt : k < 37
    · have c0 := HC.out k hlt
      have HS : Hid (((nmOf (k : Int)).toList == s.toList) = true → opR s = (k, true)) := fun h => by unfold opR; rw [find_stop HA.out h hlt]
      have HT : Hid (((nmOf (k : Int)).toList == s.toList) = false → findN s (k + 1) = none) := find_next HA.out
      generalize nmOf (k : Int) = nm at *
      cases hq : nm.toList == s.toList with
      | true =>
        have HV : Hid (opR s = (k, true)) := HS.out hq
        go_wp2
        go_ret2
        exact ⟨by rw [HV.out]; rfl, HB.out⟩
      | false =>
        have HV : Hid (findN s (k + 1) = none) := HT.out hq
        go_wp2
        go_round
        case rel => exact ⟨k + 1, by omega, by go_num, HV⟩
        case measure => simp [intOf]; omega
    · obtain rfl : k = 37 := by omega
      have HV : Hid (opR s = (0, false)) := by show opR s = _; unfold opR; rw [HA.out]
      go_wp2
      go_ret2
      exact ⟨by rw [HV.out]; rfl, HB.out⟩

/-- is it one of these names? -/
def isV (s a b c d : List UInt8) : Bool := (s != []) && (s == a || s == b || s == c || s == d)
theorem refIs_any (w : World) (op : Int) (a b c d : ByteArray) : Calls Tryd.prog 24 #[.int .i64 op, .string a, .string b, .string c, .string d] w fun e w' => e = .returned (.bool (isV (spellS op).toList a.toList b.toList c.toList d.toList)) ∧ Below w.heap.size w w' := by
  go_enter Tryd.func24, Tryd.ntmps24
  go_wp2_with fail
  refine (refSpell_any _ _).mono ?_
  rintro e w1 ⟨rfl, hb1⟩
  have HB : Hid (Below w.heap.size w w1) := hb1
  have HE : Hid (isV (spellS op).toList a.toList b.toList c.toList d.toList = (((spellS op).toList != []) && ((spellS op).toList == a.toList || (spellS op).toList == b.toList || (spellS op).toList == c.toList || (spellS op).toList == d.toList))) := rfl
  clear hb1
  obtain ⟨s, hs⟩ : ∃ s, s = spellS op := ⟨_, rfl⟩
  rw [← hs] at HE ⊢
  have HSp : Hid (spellS op = s) := hs.symm
  clear hs
  cases h0 : (s.toList == []) with
  | true =>
    have HV : Hid (isV s.toList a.toList b.toList c.toList d.toList = false) := by rw [HE.out, bne, h0]; rfl
    clear HE
    go_wp2
    go_ret
    exact ⟨by rw [HSp.out, HV.out]; rfl, HB.out⟩
  | false =>
    cases ha : (s.toList == a.toList) with
    | true =>
      have HV : Hid (isV s.toList a.toList b.toList c.toList d.toList = true) := by rw [HE.out, bne, h0, ha]; simp [Hid]
      clear HE
      go_wp2
      go_ret
      exact ⟨by rw [HSp.out, HV.out]; rfl, HB.out⟩
    | false =>
      cases hb : (s.toList == b.toList) with
      | true =>
        have HV : Hid (isV s.toList a.toList b.toList c.toList d.toList = true) := by rw [HE.out, bne, h0, ha, hb]; simp [Hid]
        clear HE
        go_wp2
        go_ret
        exact ⟨by rw [HSp.out, HV.out]; rfl, HB.out⟩
      | false =>
        cases hc : (s.toList == c.toList) with
        | true =>
          have HV : Hid (isV s.toList a.toList b.toList c.toList d.toList = true) := by rw [HE.out, bne, h0, ha, hb, hc]; simp [Hid]
          clear HE
          go_wp2
          go_ret
          exact ⟨by rw [HSp.out, HV.out]; rfl, HB.out⟩
        | false =>
          cases hd : (s.toList == d.toList) with
          | true =>
            have HV : Hid (isV s.toList a.toList b.toList c.toList d.toList = true) := by rw [HE.out, bne, h0, ha, hb, hc, hd]; simp [Hid]
            clear HE
            go_wp2
            go_ret
            exact ⟨by rw [HSp.out, HV.out]; rfl, HB.out⟩
          | false =>
            have HV : Hid (isV s.toList a.toList b.toList c.toList d.toList = false) := by rw [HE.out, bne, h0, ha, hb, hc, hd]; rfl
            clear HE
            go_wp2
            go_ret
            exact ⟨by rw [HSp.out, HV.out]; rfl, HB.out⟩
theorem isV_0 (op : Int) : isV (spellS op).toList (ByteArray.toList ⟨#[112, 117, 115, 104]⟩) (ByteArray.toList ⟨#[108, 111, 97, 100]⟩) (ByteArray.toList ⟨#[115, 97, 118, 101]⟩) (ByteArray.toList ⟨#[97, 114, 103]⟩) = (decide (op = 1) || decide (op = 4) || decide (op = 5) || decide (op = 6)) := by
  have l0 : ByteArray.toList ⟨#[112, 117, 115, 104]⟩ = [112, 117, 115, 104] := by decide +kernel
  have l1 : ByteArray.toList ⟨#[108, 111, 97, 100]⟩ = [108, 111, 97, 100] := by decide +kernel
  have l2 : ByteArray.toList ⟨#[115, 97, 118, 101]⟩ = [115, 97, 118, 101] := by decide +kernel
  have l3 : ByteArray.toList ⟨#[97, 114, 103]⟩ = [97, 114, 103] := by decide +kernel
  rw [l0, l1, l2, l3]
  cases ho : isOpB op with
  | false =>
    have e : (spellS op).toList = [] := by rw [spellS_no ho]; decide +kernel
    have hr : op < 0 ∨ 37 ≤ op := by simp only [isOpB, Bool.and_eq_false_iff, decide_eq_false_iff_not] at ho; omega
    rw [e, decide_eq_false (show ¬ op = 1 by omega), decide_eq_false (show ¬ op = 4 by omega), decide_eq_false (show ¬ op = 5 by omega), decide_eq_false (show ¬ op = 6 by omega)]
    rfl
  | true =>
    rw [spellS_op ho]
    unfold isV
    rw [bne, nm_some ho, nm_at ho 1 rfl [112, 117, 115, 104] (by decide +kernel), nm_at ho 4 rfl [108, 111, 97, 100] (by decide +kernel), nm_at ho 5 rfl [115, 97, 118, 101] (by decide +kernel), nm_at ho 6 rfl [97, 114, 103] (by decide +kernel)]
    simp
theorem isV_1 (op : Int) : isV (spellS op).toList (ByteArray.toList ⟨#[103, 101, 116]⟩) (ByteArray.toList ⟨#[104, 97, 115]⟩) (ByteArray.toList ⟨#[106, 117, 109, 112]⟩) (ByteArray.toList ⟨#[122, 101, 114, 111]⟩) = (decide (op = 7) || decide (op = 8) || decide (op = 30) || decide (op = 31)) := by
  have l0 : ByteArray.toList ⟨#[103, 101, 116]⟩ = [103, 101, 116] := by decide +kernel
  have l1 : ByteArray.toList ⟨#[104, 97, 115]⟩ = [104, 97, 115] := by decide +kernel
  have l2 : ByteArray.toList ⟨#[106, 117, 109, 112]⟩ = [106, 117, 109, 112] := by decide +kernel
  have l3 : ByteArray.toList ⟨#[122, 101, 114, 111]⟩ = [122, 101, 114, 111] := by decide +kernel
  rw [l0, l1, l2, l3]
  cases ho : isOpB op with
  | false =>
    have e : (spellS op).toList = [] := by rw [spellS_no ho]; decide +kernel
    have hr : op < 0 ∨ 37 ≤ op := by simp only [isOpB, Bool.and_eq_false_iff, decide_eq_false_iff_not] at ho; omega
    rw [e, decide_eq_false (show ¬ op = 7 by omega), decide_eq_false (show ¬ op = 8 by omega), decide_eq_false (show ¬ op = 30 by omega), decide_eq_false (show ¬ op = 31 by omega)]
    rfl
  | true =>
    rw [spellS_op ho]
    unfold isV
    rw [bne, nm_some ho, nm_at ho 7 rfl [103, 101, 116] (by decide +kernel), nm_at ho 8 rfl [104, 97, 115] (by decide +kernel), nm_at ho 30 rfl [106, 117, 109, 112] (by decide +kernel), nm_at ho 31 rfl [122, 101, 114, 111] (by decide +kernel)]
    simp
theorem isV_2 (op : Int) : isV (spellS op).toList (ByteArray.toList ⟨#[112, 117, 116]⟩) (ByteArray.toList ⟨#[100, 101, 108]⟩) (ByteArray.toList ⟨#[]⟩) (ByteArray.toList ⟨#[]⟩) = (decide (op = 32) || decide (op = 33)) := by
  have l0 : ByteArray.toList ⟨#[112, 117, 116]⟩ = [112, 117, 116] := by decide +kernel
  have l1 : ByteArray.toList ⟨#[100, 101, 108]⟩ = [100, 101, 108] := by decide +kernel
  have l2 : ByteArray.toList ⟨#[]⟩ = [] := by decide +kernel
  have l3 : ByteArray.toList ⟨#[]⟩ = [] := by decide +kernel
  rw [l0, l1, l2]
  cases ho : isOpB op with
  | false =>
    have e : (spellS op).toList = [] := by rw [spellS_no ho]; decide +kernel
    have hr : op < 0 ∨ 37 ≤ op := by simp only [isOpB, Bool.and_eq_false_iff, decide_eq_false_iff_not] at ho; omega
    rw [e, decide_eq_false (show ¬ op = 32 by omega), decide_eq_false (show ¬ op = 33 by omega)]
    rfl
  | true =>
    rw [spellS_op ho]
    unfold isV
    rw [bne, nm_some ho, nm_at ho 32 rfl [112, 117, 116] (by decide +kernel), nm_at ho 33 rfl [100, 101, 108] (by decide +kernel)]
    simp
set_option maxHeartbeats 1000000 in
theorem refWants_any (w : World) (op : Int) : Calls Tryd.prog 10 #[.int .i64 op] w fun e w' => e = .returned (.bool (wantsB op)) ∧ Below w.heap.size w w' := by
  have HE : Hid (wantsB op = ((decide (op = 1) || decide (op = 4) || decide (op = 5) || decide (op = 6)) || (decide (op = 7) || decide (op = 8) || decide (op = 30) || decide (op = 31)) || (decide (op = 32) || decide (op = 33)))) := by
    show wantsB op = _; unfold wantsB; simp only [Bool.or_assoc]
  go_enter Tryd.func10, Tryd.ntmps10
  go_wp2_with fail
  refine (refIs_any w op ⟨#[112, 117, 115, 104]⟩ ⟨#[108, 111, 97, 100]⟩ ⟨#[115, 97, 118, 101]⟩ ⟨#[97, 114, 103]⟩).mono ?_
  rintro e w1 ⟨rfl, hb1⟩
  have HB1 : Hid (Below w.heap.size w w1) := hb1
  rw [isV_0]
  clear hb1
  obtain ⟨b1, h1⟩ : ∃ b, b = (decide (op = 1) || decide (op = 4) || decide (op = 5) || decide (op = 6)) := ⟨_, rfl⟩
  rw [← h1] at HE ⊢
  clear h1
  cases b1 with
  | true =>
    have HV : Hid (wantsB op = true) := by rw [HE.out]; rfl
    clear HE
    go_wp2
    go_ret
    exact ⟨by rw [HV.out]; rfl, HB1.out⟩
  | false =>
    go_wp2_with fail
    refine (refIs_any w1 op ⟨#[103, 101, 116]⟩ ⟨#[104, 97, 115]⟩ ⟨#[106, 117, 109, 112]⟩ ⟨#[122, 101, 114, 111]⟩).mono ?_
    rintro e w2 ⟨rfl, hb2⟩
    have HB2 : Hid (Below w.heap.size w w2) := HB1.out.trans (hb2.mono HB1.out.size)
    rw [isV_1]
    clear hb2 HB1
    obtain ⟨b2, h2⟩ : ∃ b, b = (decide (op = 7) || decide (op = 8) || decide (op = 30) || decide (op = 31)) := ⟨_, rfl⟩
    rw [← h2] at HE ⊢
    clear h2
    cases b2 with
    | true =>
      have HV : Hid (wantsB op = true) := by rw [HE.out]; rfl
      clear HE
      go_wp2
      go_ret
      exact ⟨by rw [HV.out]; rfl, HB2.out⟩
    | false =>
      go_wp2_with fail
      refine (refIs_any w2 op ⟨#[112, 117, 116]⟩ ⟨#[100, 101, 108]⟩ ⟨#[]⟩ ⟨#[]⟩).mono ?_
      rintro e w3 ⟨rfl, hb3⟩
      have HB3 : Hid (Below w.heap.size w w3) := HB2.out.trans (hb3.mono HB2.out.size)
      rw [isV_2]
      clear hb3 HB2
      obtain ⟨b3, h3⟩ : ∃ b, b = (decide (op = 32) || decide (op = 33)) := ⟨_, rfl⟩
      rw [← h3] at HE ⊢
      clear h3
      have HV : Hid (wantsB op = b3) := by rw [HE.out]; rfl
      clear HE
      go_wp2
      go_ret
      exact ⟨by rw [HV.out]; rfl, HB3.out⟩

set_option maxHeartbeats 1000000 in
theorem names_walk (w : World) (op : Int) (s : ByteArray) (h : NmAt w) :
    Calls Tryd.prog 3 #[.int .i64 op, .string s] w fun e w' => e = .returned (.bool true) ∧ Below w.heap.size w w' := by
  have HN : Hid (NmAt w) := h
  clear h
  go_enter Tryd.func3, Tryd.ntmps3
  go_wp2_with fail
  refine (op_any w s HN.out).mono ?_
  rintro e w1 ⟨rfl, rfl⟩
  go_wp2_with fail
  refine (refOp_any w1 s).mono ?_
  rintro e w2 ⟨rfl, hb2⟩
  have HB2 : Hid (Below w1.heap.size w1 w2) := hb2
  clear hb2
  generalize (opR s).1 = k1 at *
  generalize (opR s).2 = k2 at *
  go_wp2_with fail
  refine (spell_any w2 op (HN.out.kept HB2.out)).mono ?_
  rintro e w3 ⟨rfl, rfl⟩
  go_wp2_with fail
  refine (refSpell_any w3 op).mono ?_
  rintro e w4 ⟨rfl, hb4⟩
  have HB4 : Hid (Below w1.heap.size w1 w4) := HB2.out.trans (hb4.mono HB2.out.size)
  clear hb4 HB2
  have hq : ((spellS op).toList == (spellS op).toList) = true := by simp
  generalize spellS op = sp at *
  go_wp2_with fail
  refine (wants_any w4 op).mono ?_
  rintro e w5 ⟨rfl, rfl⟩
  go_wp2_with fail
  refine (refWants_any w5 op).mono ?_
  rintro e w6 ⟨rfl, hb6⟩
  have HB6 : Hid (Below w1.heap.size w1 w6) := HB4.out.trans (hb6.mono HB4.out.size)
  clear hb6 HB4
  have hq2 : (wantsB op == wantsB op) = true := by simp
  generalize wantsB op = wb at *
  have hq3 : (k2 == k2) = true := by simp
  go_wp2
  go_ret
  exact ⟨rfl, HB6.out⟩
end Go.Proofs.YtjmlogljfboleaaDoor
