/-
  THE WALK OF pair.
-/
import Derived.Test.YtbpgafchagpmoaaXSmall
namespace Go.Proofs.Ytbpgafchagpmoaa
open Go.RowKit Go.Sort

abbrev PairOK (op : Int) : Prop := ∀ (w : World) (F : Nat → Prop) (B : Nat) (Z : MZ) (L : List K) (A : List Int) (R : List C) (m : M), MSt w F B Z L A R m → 2 ≤ m.st.length → m.st.length ≤ 1000 →
    Calls Try.prog 57 #[pm B, .int .i64 op] w fun e w' => e = .returned (.int .i64 (pairM op m).2) ∧ MSt w' F B Z L A R (pairM op m).1 ∧ Fr F w w'
set_option maxRecDepth 100000 in
theorem pair10 : PairOK 10 := by
  intro w F B Z L A R m hm h2 hl
  have hi : ∀ w, (Go.Instr.index 127 (.agg fnCells) (.int .i64 10)).run Try.prog w = .ok (.func (.func 81) #[] #[]) w := fun w => by kernel_rfl
  have HP := pop_any w F B Z L A R m hm (by omega) hl
  have HL : Hid (0 < m.pop.st.length ∧ m.pop.st.length ≤ 1000 ∧ m.pop.pop.st.length ≤ 1000) := by simp only [M.pop, List.length_tail]; exact ⟨by omega, by omega, by omega⟩
  clear hm h2 hl
  go_enter Try.func57, Try.ntmps57
  go_wp2_with fail
  refine HP.mono ?_
  rintro e w1 ⟨rfl, hm1, hb1⟩
  have HM1 : Hid (MSt w1 F B Z L A R m.pop) := hm1
  have HB1 : Hid (Fr F w w1) := hb1
  clear hm1 hb1 HP
  go_wp2_with fail
  refine (pop_any w1 F B Z L A R m.pop HM1.out HL.out.1 HL.out.2.1).mono ?_
  rintro e w2 ⟨rfl, hm2, hb2⟩
  have HM2 : Hid (MSt w2 F B Z L A R m.pop.pop) := hm2
  have HB2 : Hid (Fr F w w2) := HB1.out.trans hb2
  clear hm2 hb2 HM1 HB1
  go_wp2_with fail
  refine (pairs_any w2).mono ?_
  rintro e w3 ⟨rfl, hb3⟩
  have HM3 : Hid (MSt w3 F B Z L A R m.pop.pop) := (HM2.out.kept hb3).1
  have HB3 : Hid (Fr F w w3) := HB2.out.trans (HM2.out.kept hb3).2
  clear hb3 HM2 HB2
  go_wp2_with (go_at_fn 81; refine (fn10 w3 m.pop.top m.top).mono ?_; rintro e w4 ⟨rfl, rfl⟩; fail)
  refine (fn10 w3 m.pop.top m.top).mono ?_
  rintro e w4 ⟨rfl, rfl⟩
  by_cases h0 : (pairN 10 m.pop.top m.top).2 = 0
  · have HE : Hid (pairM 10 m = (m.pop.pop.push (pairN 10 m.pop.top m.top).1, 0)) := by
      show pairM 10 m = _
      rw [pairM, if_pos h0]
    rw [pairRet, h0]
    generalize (pairN 10 m.pop.top m.top).1 = z at *
    go_wp2_with fail
    refine (push_any w4 F B Z L A R m.pop.pop z HM3.out HL.out.2.2).mono ?_
    rintro e w5 ⟨rfl, hm5, hb5⟩
    have HM5 : Hid (MSt w5 F B Z L A R (m.pop.pop.push z)) := hm5
    have HB5 : Hid (Fr F w w5) := HB3.out.trans hb5
    clear hm5 hb5
    go_wp2
    go_ret
    exact ⟨by rw [HE.out]; rfl, by rw [HE.out]; exact HM5.out, HB5.out⟩
  · have HE : Hid (pairM 10 m = (m.pop.pop, (pairN 10 m.pop.top m.top).2)) := by
      show pairM 10 m = _
      rw [pairM, if_neg h0]
    have h0' : ((pairN 10 m.pop.top m.top).2 != 0) = true := by simpa using h0
    rw [pairRet]
    generalize (pairN 10 m.pop.top m.top).2 = z at *
    generalize (pairN 10 m.pop.top m.top).1 = y at *
    go_wp2
    go_ret
    exact ⟨by rw [HE.out]; rfl, by rw [HE.out]; exact HM3.out, HB3.out⟩
set_option maxRecDepth 100000 in
theorem pair11 : PairOK 11 := by
  intro w F B Z L A R m hm h2 hl
  have hi : ∀ w, (Go.Instr.index 127 (.agg fnCells) (.int .i64 11)).run Try.prog w = .ok (.func (.func 82) #[] #[]) w := fun w => by kernel_rfl
  have HP := pop_any w F B Z L A R m hm (by omega) hl
  have HL : Hid (0 < m.pop.st.length ∧ m.pop.st.length ≤ 1000 ∧ m.pop.pop.st.length ≤ 1000) := by simp only [M.pop, List.length_tail]; exact ⟨by omega, by omega, by omega⟩
  clear hm h2 hl
  go_enter Try.func57, Try.ntmps57
  go_wp2_with fail
  refine HP.mono ?_
  rintro e w1 ⟨rfl, hm1, hb1⟩
  have HM1 : Hid (MSt w1 F B Z L A R m.pop) := hm1
  have HB1 : Hid (Fr F w w1) := hb1
  clear hm1 hb1 HP
  go_wp2_with fail
  refine (pop_any w1 F B Z L A R m.pop HM1.out HL.out.1 HL.out.2.1).mono ?_
  rintro e w2 ⟨rfl, hm2, hb2⟩
  have HM2 : Hid (MSt w2 F B Z L A R m.pop.pop) := hm2
  have HB2 : Hid (Fr F w w2) := HB1.out.trans hb2
  clear hm2 hb2 HM1 HB1
  go_wp2_with fail
  refine (pairs_any w2).mono ?_
  rintro e w3 ⟨rfl, hb3⟩
  have HM3 : Hid (MSt w3 F B Z L A R m.pop.pop) := (HM2.out.kept hb3).1
  have HB3 : Hid (Fr F w w3) := HB2.out.trans (HM2.out.kept hb3).2
  clear hb3 HM2 HB2
  go_wp2_with (go_at_fn 82; refine (fn11 w3 m.pop.top m.top).mono ?_; rintro e w4 ⟨rfl, rfl⟩; fail)
  refine (fn11 w3 m.pop.top m.top).mono ?_
  rintro e w4 ⟨rfl, rfl⟩
  by_cases h0 : (pairN 11 m.pop.top m.top).2 = 0
  · have HE : Hid (pairM 11 m = (m.pop.pop.push (pairN 11 m.pop.top m.top).1, 0)) := by
      show pairM 11 m = _
      rw [pairM, if_pos h0]
    rw [pairRet, h0]
    generalize (pairN 11 m.pop.top m.top).1 = z at *
    go_wp2_with fail
    refine (push_any w4 F B Z L A R m.pop.pop z HM3.out HL.out.2.2).mono ?_
    rintro e w5 ⟨rfl, hm5, hb5⟩
    have HM5 : Hid (MSt w5 F B Z L A R (m.pop.pop.push z)) := hm5
    have HB5 : Hid (Fr F w w5) := HB3.out.trans hb5
    clear hm5 hb5
    go_wp2
    go_ret
    exact ⟨by rw [HE.out]; rfl, by rw [HE.out]; exact HM5.out, HB5.out⟩
  · have HE : Hid (pairM 11 m = (m.pop.pop, (pairN 11 m.pop.top m.top).2)) := by
      show pairM 11 m = _
      rw [pairM, if_neg h0]
    have h0' : ((pairN 11 m.pop.top m.top).2 != 0) = true := by simpa using h0
    rw [pairRet]
    generalize (pairN 11 m.pop.top m.top).2 = z at *
    generalize (pairN 11 m.pop.top m.top).1 = y at *
    go_wp2
    go_ret
    exact ⟨by rw [HE.out]; rfl, by rw [HE.out]; exact HM3.out, HB3.out⟩
set_option maxRecDepth 100000 in
theorem pair12 : PairOK 12 := by
  intro w F B Z L A R m hm h2 hl
  have hi : ∀ w, (Go.Instr.index 127 (.agg fnCells) (.int .i64 12)).run Try.prog w = .ok (.func (.func 83) #[] #[]) w := fun w => by kernel_rfl
  have HP := pop_any w F B Z L A R m hm (by omega) hl
  have HL : Hid (0 < m.pop.st.length ∧ m.pop.st.length ≤ 1000 ∧ m.pop.pop.st.length ≤ 1000) := by simp only [M.pop, List.length_tail]; exact ⟨by omega, by omega, by omega⟩
  clear hm h2 hl
  go_enter Try.func57, Try.ntmps57
  go_wp2_with fail
  refine HP.mono ?_
  rintro e w1 ⟨rfl, hm1, hb1⟩
  have HM1 : Hid (MSt w1 F B Z L A R m.pop) := hm1
  have HB1 : Hid (Fr F w w1) := hb1
  clear hm1 hb1 HP
  go_wp2_with fail
  refine (pop_any w1 F B Z L A R m.pop HM1.out HL.out.1 HL.out.2.1).mono ?_
  rintro e w2 ⟨rfl, hm2, hb2⟩
  have HM2 : Hid (MSt w2 F B Z L A R m.pop.pop) := hm2
  have HB2 : Hid (Fr F w w2) := HB1.out.trans hb2
  clear hm2 hb2 HM1 HB1
  go_wp2_with fail
  refine (pairs_any w2).mono ?_
  rintro e w3 ⟨rfl, hb3⟩
  have HM3 : Hid (MSt w3 F B Z L A R m.pop.pop) := (HM2.out.kept hb3).1
  have HB3 : Hid (Fr F w w3) := HB2.out.trans (HM2.out.kept hb3).2
  clear hb3 HM2 HB2
  go_wp2_with (go_at_fn 83; refine (fn12 w3 m.pop.top m.top).mono ?_; rintro e w4 ⟨rfl, rfl⟩; fail)
  refine (fn12 w3 m.pop.top m.top).mono ?_
  rintro e w4 ⟨rfl, rfl⟩
  by_cases h0 : (pairN 12 m.pop.top m.top).2 = 0
  · have HE : Hid (pairM 12 m = (m.pop.pop.push (pairN 12 m.pop.top m.top).1, 0)) := by
      show pairM 12 m = _
      rw [pairM, if_pos h0]
    rw [pairRet, h0]
    generalize (pairN 12 m.pop.top m.top).1 = z at *
    go_wp2_with fail
    refine (push_any w4 F B Z L A R m.pop.pop z HM3.out HL.out.2.2).mono ?_
    rintro e w5 ⟨rfl, hm5, hb5⟩
    have HM5 : Hid (MSt w5 F B Z L A R (m.pop.pop.push z)) := hm5
    have HB5 : Hid (Fr F w w5) := HB3.out.trans hb5
    clear hm5 hb5
    go_wp2
    go_ret
    exact ⟨by rw [HE.out]; rfl, by rw [HE.out]; exact HM5.out, HB5.out⟩
  · have HE : Hid (pairM 12 m = (m.pop.pop, (pairN 12 m.pop.top m.top).2)) := by
      show pairM 12 m = _
      rw [pairM, if_neg h0]
    have h0' : ((pairN 12 m.pop.top m.top).2 != 0) = true := by simpa using h0
    rw [pairRet]
    generalize (pairN 12 m.pop.top m.top).2 = z at *
    generalize (pairN 12 m.pop.top m.top).1 = y at *
    go_wp2
    go_ret
    exact ⟨by rw [HE.out]; rfl, by rw [HE.out]; exact HM3.out, HB3.out⟩
set_option maxRecDepth 100000 in
theorem pair13 : PairOK 13 := by
  intro w F B Z L A R m hm h2 hl
  have hi : ∀ w, (Go.Instr.index 127 (.agg fnCells) (.int .i64 13)).run Try.prog w = .ok (.func (.func 84) #[] #[]) w := fun w => by kernel_rfl
  have HP := pop_any w F B Z L A R m hm (by omega) hl
  have HL : Hid (0 < m.pop.st.length ∧ m.pop.st.length ≤ 1000 ∧ m.pop.pop.st.length ≤ 1000) := by simp only [M.pop, List.length_tail]; exact ⟨by omega, by omega, by omega⟩
  clear hm h2 hl
  go_enter Try.func57, Try.ntmps57
  go_wp2_with fail
  refine HP.mono ?_
  rintro e w1 ⟨rfl, hm1, hb1⟩
  have HM1 : Hid (MSt w1 F B Z L A R m.pop) := hm1
  have HB1 : Hid (Fr F w w1) := hb1
  clear hm1 hb1 HP
  go_wp2_with fail
  refine (pop_any w1 F B Z L A R m.pop HM1.out HL.out.1 HL.out.2.1).mono ?_
  rintro e w2 ⟨rfl, hm2, hb2⟩
  have HM2 : Hid (MSt w2 F B Z L A R m.pop.pop) := hm2
  have HB2 : Hid (Fr F w w2) := HB1.out.trans hb2
  clear hm2 hb2 HM1 HB1
  go_wp2_with fail
  refine (pairs_any w2).mono ?_
  rintro e w3 ⟨rfl, hb3⟩
  have HM3 : Hid (MSt w3 F B Z L A R m.pop.pop) := (HM2.out.kept hb3).1
  have HB3 : Hid (Fr F w w3) := HB2.out.trans (HM2.out.kept hb3).2
  clear hb3 HM2 HB2
  go_wp2_with (go_at_fn 84; refine (fn13 w3 m.pop.top m.top).mono ?_; rintro e w4 ⟨rfl, rfl⟩; fail)
  refine (fn13 w3 m.pop.top m.top).mono ?_
  rintro e w4 ⟨rfl, rfl⟩
  by_cases h0 : (pairN 13 m.pop.top m.top).2 = 0
  · have HE : Hid (pairM 13 m = (m.pop.pop.push (pairN 13 m.pop.top m.top).1, 0)) := by
      show pairM 13 m = _
      rw [pairM, if_pos h0]
    rw [pairRet, h0]
    generalize (pairN 13 m.pop.top m.top).1 = z at *
    go_wp2_with fail
    refine (push_any w4 F B Z L A R m.pop.pop z HM3.out HL.out.2.2).mono ?_
    rintro e w5 ⟨rfl, hm5, hb5⟩
    have HM5 : Hid (MSt w5 F B Z L A R (m.pop.pop.push z)) := hm5
    have HB5 : Hid (Fr F w w5) := HB3.out.trans hb5
    clear hm5 hb5
    go_wp2
    go_ret
    exact ⟨by rw [HE.out]; rfl, by rw [HE.out]; exact HM5.out, HB5.out⟩
  · have HE : Hid (pairM 13 m = (m.pop.pop, (pairN 13 m.pop.top m.top).2)) := by
      show pairM 13 m = _
      rw [pairM, if_neg h0]
    have h0' : ((pairN 13 m.pop.top m.top).2 != 0) = true := by simpa using h0
    rw [pairRet]
    generalize (pairN 13 m.pop.top m.top).2 = z at *
    generalize (pairN 13 m.pop.top m.top).1 = y at *
    go_wp2
    go_ret
    exact ⟨by rw [HE.out]; rfl, by rw [HE.out]; exact HM3.out, HB3.out⟩
set_option maxRecDepth 100000 in
theorem pair14 : PairOK 14 := by
  intro w F B Z L A R m hm h2 hl
  have hi : ∀ w, (Go.Instr.index 127 (.agg fnCells) (.int .i64 14)).run Try.prog w = .ok (.func (.func 85) #[] #[]) w := fun w => by kernel_rfl
  have HP := pop_any w F B Z L A R m hm (by omega) hl
  have HL : Hid (0 < m.pop.st.length ∧ m.pop.st.length ≤ 1000 ∧ m.pop.pop.st.length ≤ 1000) := by simp only [M.pop, List.length_tail]; exact ⟨by omega, by omega, by omega⟩
  clear hm h2 hl
  go_enter Try.func57, Try.ntmps57
  go_wp2_with fail
  refine HP.mono ?_
  rintro e w1 ⟨rfl, hm1, hb1⟩
  have HM1 : Hid (MSt w1 F B Z L A R m.pop) := hm1
  have HB1 : Hid (Fr F w w1) := hb1
  clear hm1 hb1 HP
  go_wp2_with fail
  refine (pop_any w1 F B Z L A R m.pop HM1.out HL.out.1 HL.out.2.1).mono ?_
  rintro e w2 ⟨rfl, hm2, hb2⟩
  have HM2 : Hid (MSt w2 F B Z L A R m.pop.pop) := hm2
  have HB2 : Hid (Fr F w w2) := HB1.out.trans hb2
  clear hm2 hb2 HM1 HB1
  go_wp2_with fail
  refine (pairs_any w2).mono ?_
  rintro e w3 ⟨rfl, hb3⟩
  have HM3 : Hid (MSt w3 F B Z L A R m.pop.pop) := (HM2.out.kept hb3).1
  have HB3 : Hid (Fr F w w3) := HB2.out.trans (HM2.out.kept hb3).2
  clear hb3 HM2 HB2
  go_wp2_with (go_at_fn 85; refine (fn14 w3 m.pop.top m.top).mono ?_; rintro e w4 ⟨rfl, rfl⟩; fail)
  refine (fn14 w3 m.pop.top m.top).mono ?_
  rintro e w4 ⟨rfl, rfl⟩
  by_cases h0 : (pairN 14 m.pop.top m.top).2 = 0
  · have HE : Hid (pairM 14 m = (m.pop.pop.push (pairN 14 m.pop.top m.top).1, 0)) := by
      show pairM 14 m = _
      rw [pairM, if_pos h0]
    rw [pairRet, h0]
    generalize (pairN 14 m.pop.top m.top).1 = z at *
    go_wp2_with fail
    refine (push_any w4 F B Z L A R m.pop.pop z HM3.out HL.out.2.2).mono ?_
    rintro e w5 ⟨rfl, hm5, hb5⟩
    have HM5 : Hid (MSt w5 F B Z L A R (m.pop.pop.push z)) := hm5
    have HB5 : Hid (Fr F w w5) := HB3.out.trans hb5
    clear hm5 hb5
    go_wp2
    go_ret
    exact ⟨by rw [HE.out]; rfl, by rw [HE.out]; exact HM5.out, HB5.out⟩
  · have HE : Hid (pairM 14 m = (m.pop.pop, (pairN 14 m.pop.top m.top).2)) := by
      show pairM 14 m = _
      rw [pairM, if_neg h0]
    have h0' : ((pairN 14 m.pop.top m.top).2 != 0) = true := by simpa using h0
    rw [pairRet]
    generalize (pairN 14 m.pop.top m.top).2 = z at *
    generalize (pairN 14 m.pop.top m.top).1 = y at *
    go_wp2
    go_ret
    exact ⟨by rw [HE.out]; rfl, by rw [HE.out]; exact HM3.out, HB3.out⟩
set_option maxRecDepth 100000 in
theorem pair15 : PairOK 15 := by
  intro w F B Z L A R m hm h2 hl
  have hi : ∀ w, (Go.Instr.index 127 (.agg fnCells) (.int .i64 15)).run Try.prog w = .ok (.func (.func 86) #[] #[]) w := fun w => by kernel_rfl
  have HP := pop_any w F B Z L A R m hm (by omega) hl
  have HL : Hid (0 < m.pop.st.length ∧ m.pop.st.length ≤ 1000 ∧ m.pop.pop.st.length ≤ 1000) := by simp only [M.pop, List.length_tail]; exact ⟨by omega, by omega, by omega⟩
  clear hm h2 hl
  go_enter Try.func57, Try.ntmps57
  go_wp2_with fail
  refine HP.mono ?_
  rintro e w1 ⟨rfl, hm1, hb1⟩
  have HM1 : Hid (MSt w1 F B Z L A R m.pop) := hm1
  have HB1 : Hid (Fr F w w1) := hb1
  clear hm1 hb1 HP
  go_wp2_with fail
  refine (pop_any w1 F B Z L A R m.pop HM1.out HL.out.1 HL.out.2.1).mono ?_
  rintro e w2 ⟨rfl, hm2, hb2⟩
  have HM2 : Hid (MSt w2 F B Z L A R m.pop.pop) := hm2
  have HB2 : Hid (Fr F w w2) := HB1.out.trans hb2
  clear hm2 hb2 HM1 HB1
  go_wp2_with fail
  refine (pairs_any w2).mono ?_
  rintro e w3 ⟨rfl, hb3⟩
  have HM3 : Hid (MSt w3 F B Z L A R m.pop.pop) := (HM2.out.kept hb3).1
  have HB3 : Hid (Fr F w w3) := HB2.out.trans (HM2.out.kept hb3).2
  clear hb3 HM2 HB2
  go_wp2_with (go_at_fn 86; refine (fn15 w3 m.pop.top m.top).mono ?_; rintro e w4 ⟨rfl, rfl⟩; fail)
  refine (fn15 w3 m.pop.top m.top).mono ?_
  rintro e w4 ⟨rfl, rfl⟩
  by_cases h0 : (pairN 15 m.pop.top m.top).2 = 0
  · have HE : Hid (pairM 15 m = (m.pop.pop.push (pairN 15 m.pop.top m.top).1, 0)) := by
      show pairM 15 m = _
      rw [pairM, if_pos h0]
    rw [pairRet, h0]
    generalize (pairN 15 m.pop.top m.top).1 = z at *
    go_wp2_with fail
    refine (push_any w4 F B Z L A R m.pop.pop z HM3.out HL.out.2.2).mono ?_
    rintro e w5 ⟨rfl, hm5, hb5⟩
    have HM5 : Hid (MSt w5 F B Z L A R (m.pop.pop.push z)) := hm5
    have HB5 : Hid (Fr F w w5) := HB3.out.trans hb5
    clear hm5 hb5
    go_wp2
    go_ret
    exact ⟨by rw [HE.out]; rfl, by rw [HE.out]; exact HM5.out, HB5.out⟩
  · have HE : Hid (pairM 15 m = (m.pop.pop, (pairN 15 m.pop.top m.top).2)) := by
      show pairM 15 m = _
      rw [pairM, if_neg h0]
    have h0' : ((pairN 15 m.pop.top m.top).2 != 0) = true := by simpa using h0
    rw [pairRet]
    generalize (pairN 15 m.pop.top m.top).2 = z at *
    generalize (pairN 15 m.pop.top m.top).1 = y at *
    go_wp2
    go_ret
    exact ⟨by rw [HE.out]; rfl, by rw [HE.out]; exact HM3.out, HB3.out⟩
set_option maxRecDepth 100000 in
theorem pair16 : PairOK 16 := by
  intro w F B Z L A R m hm h2 hl
  have hi : ∀ w, (Go.Instr.index 127 (.agg fnCells) (.int .i64 16)).run Try.prog w = .ok (.func (.func 87) #[] #[]) w := fun w => by kernel_rfl
  have HP := pop_any w F B Z L A R m hm (by omega) hl
  have HL : Hid (0 < m.pop.st.length ∧ m.pop.st.length ≤ 1000 ∧ m.pop.pop.st.length ≤ 1000) := by simp only [M.pop, List.length_tail]; exact ⟨by omega, by omega, by omega⟩
  clear hm h2 hl
  go_enter Try.func57, Try.ntmps57
  go_wp2_with fail
  refine HP.mono ?_
  rintro e w1 ⟨rfl, hm1, hb1⟩
  have HM1 : Hid (MSt w1 F B Z L A R m.pop) := hm1
  have HB1 : Hid (Fr F w w1) := hb1
  clear hm1 hb1 HP
  go_wp2_with fail
  refine (pop_any w1 F B Z L A R m.pop HM1.out HL.out.1 HL.out.2.1).mono ?_
  rintro e w2 ⟨rfl, hm2, hb2⟩
  have HM2 : Hid (MSt w2 F B Z L A R m.pop.pop) := hm2
  have HB2 : Hid (Fr F w w2) := HB1.out.trans hb2
  clear hm2 hb2 HM1 HB1
  go_wp2_with fail
  refine (pairs_any w2).mono ?_
  rintro e w3 ⟨rfl, hb3⟩
  have HM3 : Hid (MSt w3 F B Z L A R m.pop.pop) := (HM2.out.kept hb3).1
  have HB3 : Hid (Fr F w w3) := HB2.out.trans (HM2.out.kept hb3).2
  clear hb3 HM2 HB2
  go_wp2_with (go_at_fn 87; refine (fn16 w3 m.pop.top m.top).mono ?_; rintro e w4 ⟨rfl, rfl⟩; fail)
  refine (fn16 w3 m.pop.top m.top).mono ?_
  rintro e w4 ⟨rfl, rfl⟩
  by_cases h0 : (pairN 16 m.pop.top m.top).2 = 0
  · have HE : Hid (pairM 16 m = (m.pop.pop.push (pairN 16 m.pop.top m.top).1, 0)) := by
      show pairM 16 m = _
      rw [pairM, if_pos h0]
    rw [pairRet, h0]
    generalize (pairN 16 m.pop.top m.top).1 = z at *
    go_wp2_with fail
    refine (push_any w4 F B Z L A R m.pop.pop z HM3.out HL.out.2.2).mono ?_
    rintro e w5 ⟨rfl, hm5, hb5⟩
    have HM5 : Hid (MSt w5 F B Z L A R (m.pop.pop.push z)) := hm5
    have HB5 : Hid (Fr F w w5) := HB3.out.trans hb5
    clear hm5 hb5
    go_wp2
    go_ret
    exact ⟨by rw [HE.out]; rfl, by rw [HE.out]; exact HM5.out, HB5.out⟩
  · have HE : Hid (pairM 16 m = (m.pop.pop, (pairN 16 m.pop.top m.top).2)) := by
      show pairM 16 m = _
      rw [pairM, if_neg h0]
    have h0' : ((pairN 16 m.pop.top m.top).2 != 0) = true := by simpa using h0
    rw [pairRet]
    generalize (pairN 16 m.pop.top m.top).2 = z at *
    generalize (pairN 16 m.pop.top m.top).1 = y at *
    go_wp2
    go_ret
    exact ⟨by rw [HE.out]; rfl, by rw [HE.out]; exact HM3.out, HB3.out⟩
set_option maxRecDepth 100000 in
theorem pair17 : PairOK 17 := by
  intro w F B Z L A R m hm h2 hl
  have hi : ∀ w, (Go.Instr.index 127 (.agg fnCells) (.int .i64 17)).run Try.prog w = .ok (.func (.func 88) #[] #[]) w := fun w => by kernel_rfl
  have HP := pop_any w F B Z L A R m hm (by omega) hl
  have HL : Hid (0 < m.pop.st.length ∧ m.pop.st.length ≤ 1000 ∧ m.pop.pop.st.length ≤ 1000) := by simp only [M.pop, List.length_tail]; exact ⟨by omega, by omega, by omega⟩
  clear hm h2 hl
  go_enter Try.func57, Try.ntmps57
  go_wp2_with fail
  refine HP.mono ?_
  rintro e w1 ⟨rfl, hm1, hb1⟩
  have HM1 : Hid (MSt w1 F B Z L A R m.pop) := hm1
  have HB1 : Hid (Fr F w w1) := hb1
  clear hm1 hb1 HP
  go_wp2_with fail
  refine (pop_any w1 F B Z L A R m.pop HM1.out HL.out.1 HL.out.2.1).mono ?_
  rintro e w2 ⟨rfl, hm2, hb2⟩
  have HM2 : Hid (MSt w2 F B Z L A R m.pop.pop) := hm2
  have HB2 : Hid (Fr F w w2) := HB1.out.trans hb2
  clear hm2 hb2 HM1 HB1
  go_wp2_with fail
  refine (pairs_any w2).mono ?_
  rintro e w3 ⟨rfl, hb3⟩
  have HM3 : Hid (MSt w3 F B Z L A R m.pop.pop) := (HM2.out.kept hb3).1
  have HB3 : Hid (Fr F w w3) := HB2.out.trans (HM2.out.kept hb3).2
  clear hb3 HM2 HB2
  go_wp2_with (go_at_fn 88; refine (fn17 w3 m.pop.top m.top).mono ?_; rintro e w4 ⟨rfl, rfl⟩; fail)
  refine (fn17 w3 m.pop.top m.top).mono ?_
  rintro e w4 ⟨rfl, rfl⟩
  by_cases h0 : (pairN 17 m.pop.top m.top).2 = 0
  · have HE : Hid (pairM 17 m = (m.pop.pop.push (pairN 17 m.pop.top m.top).1, 0)) := by
      show pairM 17 m = _
      rw [pairM, if_pos h0]
    rw [pairRet, h0]
    generalize (pairN 17 m.pop.top m.top).1 = z at *
    go_wp2_with fail
    refine (push_any w4 F B Z L A R m.pop.pop z HM3.out HL.out.2.2).mono ?_
    rintro e w5 ⟨rfl, hm5, hb5⟩
    have HM5 : Hid (MSt w5 F B Z L A R (m.pop.pop.push z)) := hm5
    have HB5 : Hid (Fr F w w5) := HB3.out.trans hb5
    clear hm5 hb5
    go_wp2
    go_ret
    exact ⟨by rw [HE.out]; rfl, by rw [HE.out]; exact HM5.out, HB5.out⟩
  · have HE : Hid (pairM 17 m = (m.pop.pop, (pairN 17 m.pop.top m.top).2)) := by
      show pairM 17 m = _
      rw [pairM, if_neg h0]
    have h0' : ((pairN 17 m.pop.top m.top).2 != 0) = true := by simpa using h0
    rw [pairRet]
    generalize (pairN 17 m.pop.top m.top).2 = z at *
    generalize (pairN 17 m.pop.top m.top).1 = y at *
    go_wp2
    go_ret
    exact ⟨by rw [HE.out]; rfl, by rw [HE.out]; exact HM3.out, HB3.out⟩
set_option maxRecDepth 100000 in
theorem pair18 : PairOK 18 := by
  intro w F B Z L A R m hm h2 hl
  have hi : ∀ w, (Go.Instr.index 127 (.agg fnCells) (.int .i64 18)).run Try.prog w = .ok (.func (.func 89) #[] #[]) w := fun w => by kernel_rfl
  have HP := pop_any w F B Z L A R m hm (by omega) hl
  have HL : Hid (0 < m.pop.st.length ∧ m.pop.st.length ≤ 1000 ∧ m.pop.pop.st.length ≤ 1000) := by simp only [M.pop, List.length_tail]; exact ⟨by omega, by omega, by omega⟩
  clear hm h2 hl
  go_enter Try.func57, Try.ntmps57
  go_wp2_with fail
  refine HP.mono ?_
  rintro e w1 ⟨rfl, hm1, hb1⟩
  have HM1 : Hid (MSt w1 F B Z L A R m.pop) := hm1
  have HB1 : Hid (Fr F w w1) := hb1
  clear hm1 hb1 HP
  go_wp2_with fail
  refine (pop_any w1 F B Z L A R m.pop HM1.out HL.out.1 HL.out.2.1).mono ?_
  rintro e w2 ⟨rfl, hm2, hb2⟩
  have HM2 : Hid (MSt w2 F B Z L A R m.pop.pop) := hm2
  have HB2 : Hid (Fr F w w2) := HB1.out.trans hb2
  clear hm2 hb2 HM1 HB1
  go_wp2_with fail
  refine (pairs_any w2).mono ?_
  rintro e w3 ⟨rfl, hb3⟩
  have HM3 : Hid (MSt w3 F B Z L A R m.pop.pop) := (HM2.out.kept hb3).1
  have HB3 : Hid (Fr F w w3) := HB2.out.trans (HM2.out.kept hb3).2
  clear hb3 HM2 HB2
  go_wp2_with (go_at_fn 89; refine (fn18 w3 m.pop.top m.top).mono ?_; rintro e w4 ⟨rfl, rfl⟩; fail)
  refine (fn18 w3 m.pop.top m.top).mono ?_
  rintro e w4 ⟨rfl, rfl⟩
  by_cases h0 : (pairN 18 m.pop.top m.top).2 = 0
  · have HE : Hid (pairM 18 m = (m.pop.pop.push (pairN 18 m.pop.top m.top).1, 0)) := by
      show pairM 18 m = _
      rw [pairM, if_pos h0]
    rw [pairRet, h0]
    generalize (pairN 18 m.pop.top m.top).1 = z at *
    go_wp2_with fail
    refine (push_any w4 F B Z L A R m.pop.pop z HM3.out HL.out.2.2).mono ?_
    rintro e w5 ⟨rfl, hm5, hb5⟩
    have HM5 : Hid (MSt w5 F B Z L A R (m.pop.pop.push z)) := hm5
    have HB5 : Hid (Fr F w w5) := HB3.out.trans hb5
    clear hm5 hb5
    go_wp2
    go_ret
    exact ⟨by rw [HE.out]; rfl, by rw [HE.out]; exact HM5.out, HB5.out⟩
  · have HE : Hid (pairM 18 m = (m.pop.pop, (pairN 18 m.pop.top m.top).2)) := by
      show pairM 18 m = _
      rw [pairM, if_neg h0]
    have h0' : ((pairN 18 m.pop.top m.top).2 != 0) = true := by simpa using h0
    rw [pairRet]
    generalize (pairN 18 m.pop.top m.top).2 = z at *
    generalize (pairN 18 m.pop.top m.top).1 = y at *
    go_wp2
    go_ret
    exact ⟨by rw [HE.out]; rfl, by rw [HE.out]; exact HM3.out, HB3.out⟩
set_option maxRecDepth 100000 in
theorem pair19 : PairOK 19 := by
  intro w F B Z L A R m hm h2 hl
  have hi : ∀ w, (Go.Instr.index 127 (.agg fnCells) (.int .i64 19)).run Try.prog w = .ok (.func (.func 90) #[] #[]) w := fun w => by kernel_rfl
  have HP := pop_any w F B Z L A R m hm (by omega) hl
  have HL : Hid (0 < m.pop.st.length ∧ m.pop.st.length ≤ 1000 ∧ m.pop.pop.st.length ≤ 1000) := by simp only [M.pop, List.length_tail]; exact ⟨by omega, by omega, by omega⟩
  clear hm h2 hl
  go_enter Try.func57, Try.ntmps57
  go_wp2_with fail
  refine HP.mono ?_
  rintro e w1 ⟨rfl, hm1, hb1⟩
  have HM1 : Hid (MSt w1 F B Z L A R m.pop) := hm1
  have HB1 : Hid (Fr F w w1) := hb1
  clear hm1 hb1 HP
  go_wp2_with fail
  refine (pop_any w1 F B Z L A R m.pop HM1.out HL.out.1 HL.out.2.1).mono ?_
  rintro e w2 ⟨rfl, hm2, hb2⟩
  have HM2 : Hid (MSt w2 F B Z L A R m.pop.pop) := hm2
  have HB2 : Hid (Fr F w w2) := HB1.out.trans hb2
  clear hm2 hb2 HM1 HB1
  go_wp2_with fail
  refine (pairs_any w2).mono ?_
  rintro e w3 ⟨rfl, hb3⟩
  have HM3 : Hid (MSt w3 F B Z L A R m.pop.pop) := (HM2.out.kept hb3).1
  have HB3 : Hid (Fr F w w3) := HB2.out.trans (HM2.out.kept hb3).2
  clear hb3 HM2 HB2
  go_wp2_with (go_at_fn 90; refine (fn19 w3 m.pop.top m.top).mono ?_; rintro e w4 ⟨rfl, rfl⟩; fail)
  refine (fn19 w3 m.pop.top m.top).mono ?_
  rintro e w4 ⟨rfl, rfl⟩
  by_cases h0 : (pairN 19 m.pop.top m.top).2 = 0
  · have HE : Hid (pairM 19 m = (m.pop.pop.push (pairN 19 m.pop.top m.top).1, 0)) := by
      show pairM 19 m = _
      rw [pairM, if_pos h0]
    rw [pairRet, h0]
    generalize (pairN 19 m.pop.top m.top).1 = z at *
    go_wp2_with fail
    refine (push_any w4 F B Z L A R m.pop.pop z HM3.out HL.out.2.2).mono ?_
    rintro e w5 ⟨rfl, hm5, hb5⟩
    have HM5 : Hid (MSt w5 F B Z L A R (m.pop.pop.push z)) := hm5
    have HB5 : Hid (Fr F w w5) := HB3.out.trans hb5
    clear hm5 hb5
    go_wp2
    go_ret
    exact ⟨by rw [HE.out]; rfl, by rw [HE.out]; exact HM5.out, HB5.out⟩
  · have HE : Hid (pairM 19 m = (m.pop.pop, (pairN 19 m.pop.top m.top).2)) := by
      show pairM 19 m = _
      rw [pairM, if_neg h0]
    have h0' : ((pairN 19 m.pop.top m.top).2 != 0) = true := by simpa using h0
    rw [pairRet]
    generalize (pairN 19 m.pop.top m.top).2 = z at *
    generalize (pairN 19 m.pop.top m.top).1 = y at *
    go_wp2
    go_ret
    exact ⟨by rw [HE.out]; rfl, by rw [HE.out]; exact HM3.out, HB3.out⟩
set_option maxRecDepth 100000 in
theorem pair22 : PairOK 22 := by
  intro w F B Z L A R m hm h2 hl
  have hi : ∀ w, (Go.Instr.index 127 (.agg fnCells) (.int .i64 22)).run Try.prog w = .ok (.func (.func 91) #[] #[]) w := fun w => by kernel_rfl
  have HP := pop_any w F B Z L A R m hm (by omega) hl
  have HL : Hid (0 < m.pop.st.length ∧ m.pop.st.length ≤ 1000 ∧ m.pop.pop.st.length ≤ 1000) := by simp only [M.pop, List.length_tail]; exact ⟨by omega, by omega, by omega⟩
  clear hm h2 hl
  go_enter Try.func57, Try.ntmps57
  go_wp2_with fail
  refine HP.mono ?_
  rintro e w1 ⟨rfl, hm1, hb1⟩
  have HM1 : Hid (MSt w1 F B Z L A R m.pop) := hm1
  have HB1 : Hid (Fr F w w1) := hb1
  clear hm1 hb1 HP
  go_wp2_with fail
  refine (pop_any w1 F B Z L A R m.pop HM1.out HL.out.1 HL.out.2.1).mono ?_
  rintro e w2 ⟨rfl, hm2, hb2⟩
  have HM2 : Hid (MSt w2 F B Z L A R m.pop.pop) := hm2
  have HB2 : Hid (Fr F w w2) := HB1.out.trans hb2
  clear hm2 hb2 HM1 HB1
  go_wp2_with fail
  refine (pairs_any w2).mono ?_
  rintro e w3 ⟨rfl, hb3⟩
  have HM3 : Hid (MSt w3 F B Z L A R m.pop.pop) := (HM2.out.kept hb3).1
  have HB3 : Hid (Fr F w w3) := HB2.out.trans (HM2.out.kept hb3).2
  clear hb3 HM2 HB2
  go_wp2_with (go_at_fn 91; refine (fn22 w3 m.pop.top m.top).mono ?_; rintro e w4 ⟨rfl, rfl⟩; fail)
  refine (fn22 w3 m.pop.top m.top).mono ?_
  rintro e w4 ⟨rfl, rfl⟩
  by_cases h0 : (pairN 22 m.pop.top m.top).2 = 0
  · have HE : Hid (pairM 22 m = (m.pop.pop.push (pairN 22 m.pop.top m.top).1, 0)) := by
      show pairM 22 m = _
      rw [pairM, if_pos h0]
    rw [pairRet, h0]
    generalize (pairN 22 m.pop.top m.top).1 = z at *
    go_wp2_with fail
    refine (push_any w4 F B Z L A R m.pop.pop z HM3.out HL.out.2.2).mono ?_
    rintro e w5 ⟨rfl, hm5, hb5⟩
    have HM5 : Hid (MSt w5 F B Z L A R (m.pop.pop.push z)) := hm5
    have HB5 : Hid (Fr F w w5) := HB3.out.trans hb5
    clear hm5 hb5
    go_wp2
    go_ret
    exact ⟨by rw [HE.out]; rfl, by rw [HE.out]; exact HM5.out, HB5.out⟩
  · have HE : Hid (pairM 22 m = (m.pop.pop, (pairN 22 m.pop.top m.top).2)) := by
      show pairM 22 m = _
      rw [pairM, if_neg h0]
    have h0' : ((pairN 22 m.pop.top m.top).2 != 0) = true := by simpa using h0
    rw [pairRet]
    generalize (pairN 22 m.pop.top m.top).2 = z at *
    generalize (pairN 22 m.pop.top m.top).1 = y at *
    go_wp2
    go_ret
    exact ⟨by rw [HE.out]; rfl, by rw [HE.out]; exact HM3.out, HB3.out⟩
set_option maxRecDepth 100000 in
theorem pair23 : PairOK 23 := by
  intro w F B Z L A R m hm h2 hl
  have hi : ∀ w, (Go.Instr.index 127 (.agg fnCells) (.int .i64 23)).run Try.prog w = .ok (.func (.func 92) #[] #[]) w := fun w => by kernel_rfl
  have HP := pop_any w F B Z L A R m hm (by omega) hl
  have HL : Hid (0 < m.pop.st.length ∧ m.pop.st.length ≤ 1000 ∧ m.pop.pop.st.length ≤ 1000) := by simp only [M.pop, List.length_tail]; exact ⟨by omega, by omega, by omega⟩
  clear hm h2 hl
  go_enter Try.func57, Try.ntmps57
  go_wp2_with fail
  refine HP.mono ?_
  rintro e w1 ⟨rfl, hm1, hb1⟩
  have HM1 : Hid (MSt w1 F B Z L A R m.pop) := hm1
  have HB1 : Hid (Fr F w w1) := hb1
  clear hm1 hb1 HP
  go_wp2_with fail
  refine (pop_any w1 F B Z L A R m.pop HM1.out HL.out.1 HL.out.2.1).mono ?_
  rintro e w2 ⟨rfl, hm2, hb2⟩
  have HM2 : Hid (MSt w2 F B Z L A R m.pop.pop) := hm2
  have HB2 : Hid (Fr F w w2) := HB1.out.trans hb2
  clear hm2 hb2 HM1 HB1
  go_wp2_with fail
  refine (pairs_any w2).mono ?_
  rintro e w3 ⟨rfl, hb3⟩
  have HM3 : Hid (MSt w3 F B Z L A R m.pop.pop) := (HM2.out.kept hb3).1
  have HB3 : Hid (Fr F w w3) := HB2.out.trans (HM2.out.kept hb3).2
  clear hb3 HM2 HB2
  go_wp2_with (go_at_fn 92; refine (fn23 w3 m.pop.top m.top).mono ?_; rintro e w4 ⟨rfl, rfl⟩; fail)
  refine (fn23 w3 m.pop.top m.top).mono ?_
  rintro e w4 ⟨rfl, rfl⟩
  by_cases h0 : (pairN 23 m.pop.top m.top).2 = 0
  · have HE : Hid (pairM 23 m = (m.pop.pop.push (pairN 23 m.pop.top m.top).1, 0)) := by
      show pairM 23 m = _
      rw [pairM, if_pos h0]
    rw [pairRet, h0]
    generalize (pairN 23 m.pop.top m.top).1 = z at *
    go_wp2_with fail
    refine (push_any w4 F B Z L A R m.pop.pop z HM3.out HL.out.2.2).mono ?_
    rintro e w5 ⟨rfl, hm5, hb5⟩
    have HM5 : Hid (MSt w5 F B Z L A R (m.pop.pop.push z)) := hm5
    have HB5 : Hid (Fr F w w5) := HB3.out.trans hb5
    clear hm5 hb5
    go_wp2
    go_ret
    exact ⟨by rw [HE.out]; rfl, by rw [HE.out]; exact HM5.out, HB5.out⟩
  · have HE : Hid (pairM 23 m = (m.pop.pop, (pairN 23 m.pop.top m.top).2)) := by
      show pairM 23 m = _
      rw [pairM, if_neg h0]
    have h0' : ((pairN 23 m.pop.top m.top).2 != 0) = true := by simpa using h0
    rw [pairRet]
    generalize (pairN 23 m.pop.top m.top).2 = z at *
    generalize (pairN 23 m.pop.top m.top).1 = y at *
    go_wp2
    go_ret
    exact ⟨by rw [HE.out]; rfl, by rw [HE.out]; exact HM3.out, HB3.out⟩
set_option maxRecDepth 100000 in
theorem pair24 : PairOK 24 := by
  intro w F B Z L A R m hm h2 hl
  have hi : ∀ w, (Go.Instr.index 127 (.agg fnCells) (.int .i64 24)).run Try.prog w = .ok (.func (.func 93) #[] #[]) w := fun w => by kernel_rfl
  have HP := pop_any w F B Z L A R m hm (by omega) hl
  have HL : Hid (0 < m.pop.st.length ∧ m.pop.st.length ≤ 1000 ∧ m.pop.pop.st.length ≤ 1000) := by simp only [M.pop, List.length_tail]; exact ⟨by omega, by omega, by omega⟩
  clear hm h2 hl
  go_enter Try.func57, Try.ntmps57
  go_wp2_with fail
  refine HP.mono ?_
  rintro e w1 ⟨rfl, hm1, hb1⟩
  have HM1 : Hid (MSt w1 F B Z L A R m.pop) := hm1
  have HB1 : Hid (Fr F w w1) := hb1
  clear hm1 hb1 HP
  go_wp2_with fail
  refine (pop_any w1 F B Z L A R m.pop HM1.out HL.out.1 HL.out.2.1).mono ?_
  rintro e w2 ⟨rfl, hm2, hb2⟩
  have HM2 : Hid (MSt w2 F B Z L A R m.pop.pop) := hm2
  have HB2 : Hid (Fr F w w2) := HB1.out.trans hb2
  clear hm2 hb2 HM1 HB1
  go_wp2_with fail
  refine (pairs_any w2).mono ?_
  rintro e w3 ⟨rfl, hb3⟩
  have HM3 : Hid (MSt w3 F B Z L A R m.pop.pop) := (HM2.out.kept hb3).1
  have HB3 : Hid (Fr F w w3) := HB2.out.trans (HM2.out.kept hb3).2
  clear hb3 HM2 HB2
  go_wp2_with (go_at_fn 93; refine (fn24 w3 m.pop.top m.top).mono ?_; rintro e w4 ⟨rfl, rfl⟩; fail)
  refine (fn24 w3 m.pop.top m.top).mono ?_
  rintro e w4 ⟨rfl, rfl⟩
  by_cases h0 : (pairN 24 m.pop.top m.top).2 = 0
  · have HE : Hid (pairM 24 m = (m.pop.pop.push (pairN 24 m.pop.top m.top).1, 0)) := by
      show pairM 24 m = _
      rw [pairM, if_pos h0]
    rw [pairRet, h0]
    generalize (pairN 24 m.pop.top m.top).1 = z at *
    go_wp2_with fail
    refine (push_any w4 F B Z L A R m.pop.pop z HM3.out HL.out.2.2).mono ?_
    rintro e w5 ⟨rfl, hm5, hb5⟩
    have HM5 : Hid (MSt w5 F B Z L A R (m.pop.pop.push z)) := hm5
    have HB5 : Hid (Fr F w w5) := HB3.out.trans hb5
    clear hm5 hb5
    go_wp2
    go_ret
    exact ⟨by rw [HE.out]; rfl, by rw [HE.out]; exact HM5.out, HB5.out⟩
  · have HE : Hid (pairM 24 m = (m.pop.pop, (pairN 24 m.pop.top m.top).2)) := by
      show pairM 24 m = _
      rw [pairM, if_neg h0]
    have h0' : ((pairN 24 m.pop.top m.top).2 != 0) = true := by simpa using h0
    rw [pairRet]
    generalize (pairN 24 m.pop.top m.top).2 = z at *
    generalize (pairN 24 m.pop.top m.top).1 = y at *
    go_wp2
    go_ret
    exact ⟨by rw [HE.out]; rfl, by rw [HE.out]; exact HM3.out, HB3.out⟩
set_option maxRecDepth 100000 in
theorem pair25 : PairOK 25 := by
  intro w F B Z L A R m hm h2 hl
  have hi : ∀ w, (Go.Instr.index 127 (.agg fnCells) (.int .i64 25)).run Try.prog w = .ok (.func (.func 94) #[] #[]) w := fun w => by kernel_rfl
  have HP := pop_any w F B Z L A R m hm (by omega) hl
  have HL : Hid (0 < m.pop.st.length ∧ m.pop.st.length ≤ 1000 ∧ m.pop.pop.st.length ≤ 1000) := by simp only [M.pop, List.length_tail]; exact ⟨by omega, by omega, by omega⟩
  clear hm h2 hl
  go_enter Try.func57, Try.ntmps57
  go_wp2_with fail
  refine HP.mono ?_
  rintro e w1 ⟨rfl, hm1, hb1⟩
  have HM1 : Hid (MSt w1 F B Z L A R m.pop) := hm1
  have HB1 : Hid (Fr F w w1) := hb1
  clear hm1 hb1 HP
  go_wp2_with fail
  refine (pop_any w1 F B Z L A R m.pop HM1.out HL.out.1 HL.out.2.1).mono ?_
  rintro e w2 ⟨rfl, hm2, hb2⟩
  have HM2 : Hid (MSt w2 F B Z L A R m.pop.pop) := hm2
  have HB2 : Hid (Fr F w w2) := HB1.out.trans hb2
  clear hm2 hb2 HM1 HB1
  go_wp2_with fail
  refine (pairs_any w2).mono ?_
  rintro e w3 ⟨rfl, hb3⟩
  have HM3 : Hid (MSt w3 F B Z L A R m.pop.pop) := (HM2.out.kept hb3).1
  have HB3 : Hid (Fr F w w3) := HB2.out.trans (HM2.out.kept hb3).2
  clear hb3 HM2 HB2
  go_wp2_with (go_at_fn 94; refine (fn25 w3 m.pop.top m.top).mono ?_; rintro e w4 ⟨rfl, rfl⟩; fail)
  refine (fn25 w3 m.pop.top m.top).mono ?_
  rintro e w4 ⟨rfl, rfl⟩
  by_cases h0 : (pairN 25 m.pop.top m.top).2 = 0
  · have HE : Hid (pairM 25 m = (m.pop.pop.push (pairN 25 m.pop.top m.top).1, 0)) := by
      show pairM 25 m = _
      rw [pairM, if_pos h0]
    rw [pairRet, h0]
    generalize (pairN 25 m.pop.top m.top).1 = z at *
    go_wp2_with fail
    refine (push_any w4 F B Z L A R m.pop.pop z HM3.out HL.out.2.2).mono ?_
    rintro e w5 ⟨rfl, hm5, hb5⟩
    have HM5 : Hid (MSt w5 F B Z L A R (m.pop.pop.push z)) := hm5
    have HB5 : Hid (Fr F w w5) := HB3.out.trans hb5
    clear hm5 hb5
    go_wp2
    go_ret
    exact ⟨by rw [HE.out]; rfl, by rw [HE.out]; exact HM5.out, HB5.out⟩
  · have HE : Hid (pairM 25 m = (m.pop.pop, (pairN 25 m.pop.top m.top).2)) := by
      show pairM 25 m = _
      rw [pairM, if_neg h0]
    have h0' : ((pairN 25 m.pop.top m.top).2 != 0) = true := by simpa using h0
    rw [pairRet]
    generalize (pairN 25 m.pop.top m.top).2 = z at *
    generalize (pairN 25 m.pop.top m.top).1 = y at *
    go_wp2
    go_ret
    exact ⟨by rw [HE.out]; rfl, by rw [HE.out]; exact HM3.out, HB3.out⟩
set_option maxRecDepth 100000 in
theorem pair26 : PairOK 26 := by
  intro w F B Z L A R m hm h2 hl
  have hi : ∀ w, (Go.Instr.index 127 (.agg fnCells) (.int .i64 26)).run Try.prog w = .ok (.func (.func 95) #[] #[]) w := fun w => by kernel_rfl
  have HP := pop_any w F B Z L A R m hm (by omega) hl
  have HL : Hid (0 < m.pop.st.length ∧ m.pop.st.length ≤ 1000 ∧ m.pop.pop.st.length ≤ 1000) := by simp only [M.pop, List.length_tail]; exact ⟨by omega, by omega, by omega⟩
  clear hm h2 hl
  go_enter Try.func57, Try.ntmps57
  go_wp2_with fail
  refine HP.mono ?_
  rintro e w1 ⟨rfl, hm1, hb1⟩
  have HM1 : Hid (MSt w1 F B Z L A R m.pop) := hm1
  have HB1 : Hid (Fr F w w1) := hb1
  clear hm1 hb1 HP
  go_wp2_with fail
  refine (pop_any w1 F B Z L A R m.pop HM1.out HL.out.1 HL.out.2.1).mono ?_
  rintro e w2 ⟨rfl, hm2, hb2⟩
  have HM2 : Hid (MSt w2 F B Z L A R m.pop.pop) := hm2
  have HB2 : Hid (Fr F w w2) := HB1.out.trans hb2
  clear hm2 hb2 HM1 HB1
  go_wp2_with fail
  refine (pairs_any w2).mono ?_
  rintro e w3 ⟨rfl, hb3⟩
  have HM3 : Hid (MSt w3 F B Z L A R m.pop.pop) := (HM2.out.kept hb3).1
  have HB3 : Hid (Fr F w w3) := HB2.out.trans (HM2.out.kept hb3).2
  clear hb3 HM2 HB2
  go_wp2_with (go_at_fn 95; refine (fn26 w3 m.pop.top m.top).mono ?_; rintro e w4 ⟨rfl, rfl⟩; fail)
  refine (fn26 w3 m.pop.top m.top).mono ?_
  rintro e w4 ⟨rfl, rfl⟩
  by_cases h0 : (pairN 26 m.pop.top m.top).2 = 0
  · have HE : Hid (pairM 26 m = (m.pop.pop.push (pairN 26 m.pop.top m.top).1, 0)) := by
      show pairM 26 m = _
      rw [pairM, if_pos h0]
    rw [pairRet, h0]
    generalize (pairN 26 m.pop.top m.top).1 = z at *
    go_wp2_with fail
    refine (push_any w4 F B Z L A R m.pop.pop z HM3.out HL.out.2.2).mono ?_
    rintro e w5 ⟨rfl, hm5, hb5⟩
    have HM5 : Hid (MSt w5 F B Z L A R (m.pop.pop.push z)) := hm5
    have HB5 : Hid (Fr F w w5) := HB3.out.trans hb5
    clear hm5 hb5
    go_wp2
    go_ret
    exact ⟨by rw [HE.out]; rfl, by rw [HE.out]; exact HM5.out, HB5.out⟩
  · have HE : Hid (pairM 26 m = (m.pop.pop, (pairN 26 m.pop.top m.top).2)) := by
      show pairM 26 m = _
      rw [pairM, if_neg h0]
    have h0' : ((pairN 26 m.pop.top m.top).2 != 0) = true := by simpa using h0
    rw [pairRet]
    generalize (pairN 26 m.pop.top m.top).2 = z at *
    generalize (pairN 26 m.pop.top m.top).1 = y at *
    go_wp2
    go_ret
    exact ⟨by rw [HE.out]; rfl, by rw [HE.out]; exact HM3.out, HB3.out⟩
set_option maxRecDepth 100000 in
theorem pair27 : PairOK 27 := by
  intro w F B Z L A R m hm h2 hl
  have hi : ∀ w, (Go.Instr.index 127 (.agg fnCells) (.int .i64 27)).run Try.prog w = .ok (.func (.func 96) #[] #[]) w := fun w => by kernel_rfl
  have HP := pop_any w F B Z L A R m hm (by omega) hl
  have HL : Hid (0 < m.pop.st.length ∧ m.pop.st.length ≤ 1000 ∧ m.pop.pop.st.length ≤ 1000) := by simp only [M.pop, List.length_tail]; exact ⟨by omega, by omega, by omega⟩
  clear hm h2 hl
  go_enter Try.func57, Try.ntmps57
  go_wp2_with fail
  refine HP.mono ?_
  rintro e w1 ⟨rfl, hm1, hb1⟩
  have HM1 : Hid (MSt w1 F B Z L A R m.pop) := hm1
  have HB1 : Hid (Fr F w w1) := hb1
  clear hm1 hb1 HP
  go_wp2_with fail
  refine (pop_any w1 F B Z L A R m.pop HM1.out HL.out.1 HL.out.2.1).mono ?_
  rintro e w2 ⟨rfl, hm2, hb2⟩
  have HM2 : Hid (MSt w2 F B Z L A R m.pop.pop) := hm2
  have HB2 : Hid (Fr F w w2) := HB1.out.trans hb2
  clear hm2 hb2 HM1 HB1
  go_wp2_with fail
  refine (pairs_any w2).mono ?_
  rintro e w3 ⟨rfl, hb3⟩
  have HM3 : Hid (MSt w3 F B Z L A R m.pop.pop) := (HM2.out.kept hb3).1
  have HB3 : Hid (Fr F w w3) := HB2.out.trans (HM2.out.kept hb3).2
  clear hb3 HM2 HB2
  go_wp2_with (go_at_fn 96; refine (fn27 w3 m.pop.top m.top).mono ?_; rintro e w4 ⟨rfl, rfl⟩; fail)
  refine (fn27 w3 m.pop.top m.top).mono ?_
  rintro e w4 ⟨rfl, rfl⟩
  by_cases h0 : (pairN 27 m.pop.top m.top).2 = 0
  · have HE : Hid (pairM 27 m = (m.pop.pop.push (pairN 27 m.pop.top m.top).1, 0)) := by
      show pairM 27 m = _
      rw [pairM, if_pos h0]
    rw [pairRet, h0]
    generalize (pairN 27 m.pop.top m.top).1 = z at *
    go_wp2_with fail
    refine (push_any w4 F B Z L A R m.pop.pop z HM3.out HL.out.2.2).mono ?_
    rintro e w5 ⟨rfl, hm5, hb5⟩
    have HM5 : Hid (MSt w5 F B Z L A R (m.pop.pop.push z)) := hm5
    have HB5 : Hid (Fr F w w5) := HB3.out.trans hb5
    clear hm5 hb5
    go_wp2
    go_ret
    exact ⟨by rw [HE.out]; rfl, by rw [HE.out]; exact HM5.out, HB5.out⟩
  · have HE : Hid (pairM 27 m = (m.pop.pop, (pairN 27 m.pop.top m.top).2)) := by
      show pairM 27 m = _
      rw [pairM, if_neg h0]
    have h0' : ((pairN 27 m.pop.top m.top).2 != 0) = true := by simpa using h0
    rw [pairRet]
    generalize (pairN 27 m.pop.top m.top).2 = z at *
    generalize (pairN 27 m.pop.top m.top).1 = y at *
    go_wp2
    go_ret
    exact ⟨by rw [HE.out]; rfl, by rw [HE.out]; exact HM3.out, HB3.out⟩
set_option maxRecDepth 100000 in
theorem pair28 : PairOK 28 := by
  intro w F B Z L A R m hm h2 hl
  have hi : ∀ w, (Go.Instr.index 127 (.agg fnCells) (.int .i64 28)).run Try.prog w = .ok (.func (.func 97) #[] #[]) w := fun w => by kernel_rfl
  have HP := pop_any w F B Z L A R m hm (by omega) hl
  have HL : Hid (0 < m.pop.st.length ∧ m.pop.st.length ≤ 1000 ∧ m.pop.pop.st.length ≤ 1000) := by simp only [M.pop, List.length_tail]; exact ⟨by omega, by omega, by omega⟩
  clear hm h2 hl
  go_enter Try.func57, Try.ntmps57
  go_wp2_with fail
  refine HP.mono ?_
  rintro e w1 ⟨rfl, hm1, hb1⟩
  have HM1 : Hid (MSt w1 F B Z L A R m.pop) := hm1
  have HB1 : Hid (Fr F w w1) := hb1
  clear hm1 hb1 HP
  go_wp2_with fail
  refine (pop_any w1 F B Z L A R m.pop HM1.out HL.out.1 HL.out.2.1).mono ?_
  rintro e w2 ⟨rfl, hm2, hb2⟩
  have HM2 : Hid (MSt w2 F B Z L A R m.pop.pop) := hm2
  have HB2 : Hid (Fr F w w2) := HB1.out.trans hb2
  clear hm2 hb2 HM1 HB1
  go_wp2_with fail
  refine (pairs_any w2).mono ?_
  rintro e w3 ⟨rfl, hb3⟩
  have HM3 : Hid (MSt w3 F B Z L A R m.pop.pop) := (HM2.out.kept hb3).1
  have HB3 : Hid (Fr F w w3) := HB2.out.trans (HM2.out.kept hb3).2
  clear hb3 HM2 HB2
  go_wp2_with (go_at_fn 97; refine (fn28 w3 m.pop.top m.top).mono ?_; rintro e w4 ⟨rfl, rfl⟩; fail)
  refine (fn28 w3 m.pop.top m.top).mono ?_
  rintro e w4 ⟨rfl, rfl⟩
  by_cases h0 : (pairN 28 m.pop.top m.top).2 = 0
  · have HE : Hid (pairM 28 m = (m.pop.pop.push (pairN 28 m.pop.top m.top).1, 0)) := by
      show pairM 28 m = _
      rw [pairM, if_pos h0]
    rw [pairRet, h0]
    generalize (pairN 28 m.pop.top m.top).1 = z at *
    go_wp2_with fail
    refine (push_any w4 F B Z L A R m.pop.pop z HM3.out HL.out.2.2).mono ?_
    rintro e w5 ⟨rfl, hm5, hb5⟩
    have HM5 : Hid (MSt w5 F B Z L A R (m.pop.pop.push z)) := hm5
    have HB5 : Hid (Fr F w w5) := HB3.out.trans hb5
    clear hm5 hb5
    go_wp2
    go_ret
    exact ⟨by rw [HE.out]; rfl, by rw [HE.out]; exact HM5.out, HB5.out⟩
  · have HE : Hid (pairM 28 m = (m.pop.pop, (pairN 28 m.pop.top m.top).2)) := by
      show pairM 28 m = _
      rw [pairM, if_neg h0]
    have h0' : ((pairN 28 m.pop.top m.top).2 != 0) = true := by simpa using h0
    rw [pairRet]
    generalize (pairN 28 m.pop.top m.top).2 = z at *
    generalize (pairN 28 m.pop.top m.top).1 = y at *
    go_wp2
    go_ret
    exact ⟨by rw [HE.out]; rfl, by rw [HE.out]; exact HM3.out, HB3.out⟩
set_option maxRecDepth 100000 in
theorem pair29 : PairOK 29 := by
  intro w F B Z L A R m hm h2 hl
  have hi : ∀ w, (Go.Instr.index 127 (.agg fnCells) (.int .i64 29)).run Try.prog w = .ok (.func (.func 98) #[] #[]) w := fun w => by kernel_rfl
  have HP := pop_any w F B Z L A R m hm (by omega) hl
  have HL : Hid (0 < m.pop.st.length ∧ m.pop.st.length ≤ 1000 ∧ m.pop.pop.st.length ≤ 1000) := by simp only [M.pop, List.length_tail]; exact ⟨by omega, by omega, by omega⟩
  clear hm h2 hl
  go_enter Try.func57, Try.ntmps57
  go_wp2_with fail
  refine HP.mono ?_
  rintro e w1 ⟨rfl, hm1, hb1⟩
  have HM1 : Hid (MSt w1 F B Z L A R m.pop) := hm1
  have HB1 : Hid (Fr F w w1) := hb1
  clear hm1 hb1 HP
  go_wp2_with fail
  refine (pop_any w1 F B Z L A R m.pop HM1.out HL.out.1 HL.out.2.1).mono ?_
  rintro e w2 ⟨rfl, hm2, hb2⟩
  have HM2 : Hid (MSt w2 F B Z L A R m.pop.pop) := hm2
  have HB2 : Hid (Fr F w w2) := HB1.out.trans hb2
  clear hm2 hb2 HM1 HB1
  go_wp2_with fail
  refine (pairs_any w2).mono ?_
  rintro e w3 ⟨rfl, hb3⟩
  have HM3 : Hid (MSt w3 F B Z L A R m.pop.pop) := (HM2.out.kept hb3).1
  have HB3 : Hid (Fr F w w3) := HB2.out.trans (HM2.out.kept hb3).2
  clear hb3 HM2 HB2
  go_wp2_with (go_at_fn 98; refine (fn29 w3 m.pop.top m.top).mono ?_; rintro e w4 ⟨rfl, rfl⟩; fail)
  refine (fn29 w3 m.pop.top m.top).mono ?_
  rintro e w4 ⟨rfl, rfl⟩
  by_cases h0 : (pairN 29 m.pop.top m.top).2 = 0
  · have HE : Hid (pairM 29 m = (m.pop.pop.push (pairN 29 m.pop.top m.top).1, 0)) := by
      show pairM 29 m = _
      rw [pairM, if_pos h0]
    rw [pairRet, h0]
    generalize (pairN 29 m.pop.top m.top).1 = z at *
    go_wp2_with fail
    refine (push_any w4 F B Z L A R m.pop.pop z HM3.out HL.out.2.2).mono ?_
    rintro e w5 ⟨rfl, hm5, hb5⟩
    have HM5 : Hid (MSt w5 F B Z L A R (m.pop.pop.push z)) := hm5
    have HB5 : Hid (Fr F w w5) := HB3.out.trans hb5
    clear hm5 hb5
    go_wp2
    go_ret
    exact ⟨by rw [HE.out]; rfl, by rw [HE.out]; exact HM5.out, HB5.out⟩
  · have HE : Hid (pairM 29 m = (m.pop.pop, (pairN 29 m.pop.top m.top).2)) := by
      show pairM 29 m = _
      rw [pairM, if_neg h0]
    have h0' : ((pairN 29 m.pop.top m.top).2 != 0) = true := by simpa using h0
    rw [pairRet]
    generalize (pairN 29 m.pop.top m.top).2 = z at *
    generalize (pairN 29 m.pop.top m.top).1 = y at *
    go_wp2
    go_ret
    exact ⟨by rw [HE.out]; rfl, by rw [HE.out]; exact HM3.out, HB3.out⟩
theorem pair_any (op : Int) (hp : (10 ≤ op ∧ op ≤ 19) ∨ (22 ≤ op ∧ op ≤ 29)) : PairOK op := by
  have : op = 10 ∨ op = 11 ∨ op = 12 ∨ op = 13 ∨ op = 14 ∨ op = 15 ∨ op = 16 ∨ op = 17 ∨ op = 18 ∨ op = 19 ∨ op = 22 ∨ op = 23 ∨ op = 24 ∨ op = 25 ∨ op = 26 ∨ op = 27 ∨ op = 28 ∨ op = 29 := by omega
  rcases this with rfl | rfl | rfl | rfl | rfl | rfl | rfl | rfl | rfl | rfl | rfl | rfl | rfl | rfl | rfl | rfl | rfl | rfl
  · exact pair10
  · exact pair11
  · exact pair12
  · exact pair13
  · exact pair14
  · exact pair15
  · exact pair16
  · exact pair17
  · exact pair18
  · exact pair19
  · exact pair22
  · exact pair23
  · exact pair24
  · exact pair25
  · exact pair26
  · exact pair27
  · exact pair28
  · exact pair29
end Go.Proofs.Ytbpgafchagpmoaa
