import Derived.Test.YtcaibgbhebldmaaGreatJ33
/-
  THE WALK OF do, INSTRUCTION BY INSTRUCTION (2).
-/
namespace Go.Proofs.YtcaibgbhebldmaaGreat
open Go.RowKit Go.Sort

theorem do9 : DoOK 9 := by
  intro w F B Z L A R m a hm ht hl ho hf
  have HD : Hid (DS w (wb w 9 a) F B Z L A R a m) := DS.start hm 9 a
  have HL : Hid (1 ≤ m.st.length ∧ m.st.length ≤ 100 ∧ m.ou.length ≤ 100) := ⟨by simp only [takesN, tkL, Int.toNat, List.getD_cons_zero, List.getD_cons_succ] at ht; omega, hl, ho⟩
  clear hm ht hl ho hf
  go_enter Tryz.func63, Tryz.ntmps63
  go_wp2_with fail
  refine (pop_any (wb w 9 a) _ B Z L A R (m) HD.out.mst (by have := HL.out; have := len_pop m; have := len_pop m.pop; have := len_push m.pop m.top; omega) (by have := HL.out; have := len_pop m; have := len_pop m.pop; have := len_push m.pop m.top; omega)).mono ?_
  rintro e w1 ⟨rfl, hm1, hf1⟩
  have HD1 : Hid (DS w w1 F B Z L A R a ((m).pop)) := HD.out.next hm1 hf1
  clear hm1 hf1
  go_wp2_with fail
  refine (get_any w1 _ B Z L A R (m.pop) m.top HD1.out.mst (by have := HL.out; have := len_pop m; have := len_pop m.pop; have := len_push m.pop m.top; omega)).mono ?_
  rintro e w2 ⟨rfl, hm2, hf2⟩
  have HD2 : Hid (DS w w2 F B Z L A R a ((getN R m.top (m.pop)).1)) := HD1.out.next hm2 hf2
  clear hm2 hf2
  go_wp2
  go_ret
  exact ⟨rfl, HD2.out.end⟩
theorem do20 : DoOK 20 := by
  intro w F B Z L A R m a hm ht hl ho hf
  have HD : Hid (DS w (wb w 20 a) F B Z L A R a m) := DS.start hm 20 a
  have HL : Hid (1 ≤ m.st.length ∧ m.st.length ≤ 100 ∧ m.ou.length ≤ 100) := ⟨by simp only [takesN, tkL, Int.toNat, List.getD_cons_zero, List.getD_cons_succ] at ht; omega, hl, ho⟩
  clear hm ht hl ho hf
  go_enter Tryz.func63, Tryz.ntmps63
  go_wp2_with fail
  refine (pop_any (wb w 20 a) _ B Z L A R (m) HD.out.mst (by have := HL.out; have := len_pop m; have := len_pop m.pop; have := len_push m.pop m.top; omega) (by have := HL.out; have := len_pop m; have := len_pop m.pop; have := len_push m.pop m.top; omega)).mono ?_
  rintro e w1 ⟨rfl, hm1, hf1⟩
  have HD1 : Hid (DS w w1 F B Z L A R a ((m).pop)) := HD.out.next hm1 hf1
  clear hm1 hf1
  go_wp2_with fail
  refine (push_any w1 _ B Z L A R (m.pop) (negN m.top) HD1.out.mst (by have := HL.out; have := len_pop m; have := len_pop m.pop; have := len_push m.pop m.top; omega)).mono ?_
  rintro e w2 ⟨rfl, hm2, hf2⟩
  have HD2 : Hid (DS w w2 F B Z L A R a ((m.pop).push (negN m.top))) := HD1.out.next hm2 hf2
  clear hm2 hf2
  go_wp2
  go_ret
  exact ⟨rfl, HD2.out.end⟩
theorem do21 : DoOK 21 := by
  intro w F B Z L A R m a hm ht hl ho hf
  have HD : Hid (DS w (wb w 21 a) F B Z L A R a m) := DS.start hm 21 a
  have HL : Hid (1 ≤ m.st.length ∧ m.st.length ≤ 100 ∧ m.ou.length ≤ 100) := ⟨by simp only [takesN, tkL, Int.toNat, List.getD_cons_zero, List.getD_cons_succ] at ht; omega, hl, ho⟩
  clear hm ht hl ho hf
  go_enter Tryz.func63, Tryz.ntmps63
  go_wp2_with fail
  refine (pop_any (wb w 21 a) _ B Z L A R (m) HD.out.mst (by have := HL.out; have := len_pop m; have := len_pop m.pop; have := len_push m.pop m.top; omega) (by have := HL.out; have := len_pop m; have := len_pop m.pop; have := len_push m.pop m.top; omega)).mono ?_
  rintro e w1 ⟨rfl, hm1, hf1⟩
  have HD1 : Hid (DS w w1 F B Z L A R a ((m).pop)) := HD.out.next hm1 hf1
  clear hm1 hf1
  go_wp2_with fail
  refine (truth_any w1 _).mono ?_
  rintro e w1x ⟨rfl, rfl⟩
  go_wp2_with fail
  refine (push_any w1x _ B Z L A R (m.pop) (trN (m.top == 0)) HD1.out.mst (by have := HL.out; have := len_pop m; have := len_pop m.pop; have := len_push m.pop m.top; omega)).mono ?_
  rintro e w2 ⟨rfl, hm2, hf2⟩
  have HD2 : Hid (DS w w2 F B Z L A R a ((m.pop).push (trN (m.top == 0)))) := HD1.out.next hm2 hf2
  clear hm2 hf2
  go_wp2
  go_ret
  exact ⟨rfl, HD2.out.end⟩
set_option maxRecDepth 100000 in
theorem do32 : DoOK 32 := by
  intro w F B Z L A R m a hm ht hl ho hf
  have HD : Hid (DS w (wb w 32 a) F B Z L A R a m) := DS.start hm 32 a
  have d1 := HD.out.d1
  have h1 : 1 ≤ m.st.length := by simp only [takesN, tkL, Int.toNat, List.getD_cons_zero, List.getD_cons_succ] at ht; omega
  have HP := pop_any (wb w 32 a).drew _ B Z L A R m HD.out.drew.mst (by omega) (by omega)
  have HE : Hid (doN A R 32 a m = putN a (1, m.top) m.pop) := rfl
  clear hm ht hl ho hf h1
  go_enter Tryz.func63, Tryz.ntmps63
  go_wp2_with fail
  go_region_held (fun w' => w'.cell? ⟨w.heap.size, 1, none⟩ = some (.int .i64 a)) (go_keep) (first | (go_at_call 75; refine HP.mono ?_; rintro e w1 ⟨rfl, hm1, hf1⟩; have t1 := hf1.cell (.inr rfl) HD.out.drew.d1; have HD1 : Hid (DS w w1 F B Z L A R a m.pop) := HD.out.drew.next hm1 hf1; clear hm1 hf1) | (go_at_call 79; refine (put_any w1 _ B Z L A R m.pop a 1 m.top HD1.out.mst).mono ?_; rintro e w2 ⟨rfl, hm2, hf2⟩; have HD2 : Hid (DS w w2 F B Z L A R a (putN a (1, m.top) m.pop).1) := HD1.out.next hm2 hf2; have t2 := HD2.out.d1; clear hm2 hf2))
  all_goals (
    go_wp2
    go_ret
    exact ⟨by rw [HE.out]; rfl, by rw [HE.out]; exact HD2.out.end⟩)
theorem do33 : DoOK 33 := by
  intro w F B Z L A R m a hm ht hl ho hf
  have HD : Hid (DS w (wb w 33 a) F B Z L A R a m) := DS.start hm 33 a
  have HL : Hid (0 ≤ m.st.length ∧ m.st.length ≤ 100 ∧ m.ou.length ≤ 100) := ⟨by simp only [takesN, tkL, Int.toNat, List.getD_cons_zero, List.getD_cons_succ] at ht; omega, hl, ho⟩
  clear hm ht hl ho hf
  go_enter Tryz.func63, Tryz.ntmps63
  go_wp2_with fail
  refine (put_any (wb w 33 a) _ B Z L A R (m) a 2 0 HD.out.mst).mono ?_
  rintro e w1 ⟨rfl, hm1, hf1⟩
  have HD1 : Hid (DS w w1 F B Z L A R a ((putN a (2, 0) (m)).1)) := HD.out.next hm1 hf1
  clear hm1 hf1
  go_wp2
  go_ret
  exact ⟨rfl, HD1.out.end⟩
theorem do34 : DoOK 34 := by
  intro w F B Z L A R m a hm ht hl ho hf
  have HD : Hid (DS w (wb w 34 a) F B Z L A R a m) := DS.start hm 34 a
  have HL : Hid (2 ≤ m.st.length ∧ m.st.length ≤ 100 ∧ m.ou.length ≤ 100) := ⟨by simp only [takesN, tkL, Int.toNat, List.getD_cons_zero, List.getD_cons_succ] at ht; omega, hl, ho⟩
  clear hm ht hl ho hf
  go_enter Tryz.func63, Tryz.ntmps63
  go_wp2_with fail
  refine (pop_any (wb w 34 a) _ B Z L A R (m) HD.out.mst (by have := HL.out; have := len_pop m; have := len_pop m.pop; have := len_push m.pop m.top; omega) (by have := HL.out; have := len_pop m; have := len_pop m.pop; have := len_push m.pop m.top; omega)).mono ?_
  rintro e w1 ⟨rfl, hm1, hf1⟩
  have HD1 : Hid (DS w w1 F B Z L A R a ((m).pop)) := HD.out.next hm1 hf1
  clear hm1 hf1
  go_wp2_with fail
  refine (pop_any w1 _ B Z L A R (m.pop) HD1.out.mst (by have := HL.out; have := len_pop m; have := len_pop m.pop; have := len_push m.pop m.top; omega) (by have := HL.out; have := len_pop m; have := len_pop m.pop; have := len_push m.pop m.top; omega)).mono ?_
  rintro e w2 ⟨rfl, hm2, hf2⟩
  have HD2 : Hid (DS w w2 F B Z L A R a ((m.pop).pop)) := HD1.out.next hm2 hf2
  clear hm2 hf2
  go_wp2_with fail
  refine (put_any w2 _ B Z L A R (m.pop.pop) m.pop.top 1 m.top HD2.out.mst).mono ?_
  rintro e w3 ⟨rfl, hm3, hf3⟩
  have HD3 : Hid (DS w w3 F B Z L A R a ((putN m.pop.top (1, m.top) (m.pop.pop)).1)) := HD2.out.next hm3 hf3
  clear hm3 hf3
  go_wp2
  go_ret
  exact ⟨rfl, HD3.out.end⟩
theorem do35 : DoOK 35 := by
  intro w F B Z L A R m a hm ht hl ho hf
  have HD : Hid (DS w (wb w 35 a) F B Z L A R a m) := DS.start hm 35 a
  have HL : Hid (1 ≤ m.st.length ∧ m.st.length ≤ 100 ∧ m.ou.length ≤ 100) := ⟨by simp only [takesN, tkL, Int.toNat, List.getD_cons_zero, List.getD_cons_succ] at ht; omega, hl, ho⟩
  clear hm ht hl ho hf
  go_enter Tryz.func63, Tryz.ntmps63
  go_wp2_with fail
  refine (pop_any (wb w 35 a) _ B Z L A R (m) HD.out.mst (by have := HL.out; have := len_pop m; have := len_pop m.pop; have := len_push m.pop m.top; omega) (by have := HL.out; have := len_pop m; have := len_pop m.pop; have := len_push m.pop m.top; omega)).mono ?_
  rintro e w1 ⟨rfl, hm1, hf1⟩
  have HD1 : Hid (DS w w1 F B Z L A R a ((m).pop)) := HD.out.next hm1 hf1
  clear hm1 hf1
  go_wp2_with fail
  refine (tell_any w1 _ B Z L A R (m.pop) m.top HD1.out.mst (by have := HL.out; exact Nat.le_trans this.2.2 (by omega))).mono ?_
  rintro e w2 ⟨rfl, hm2, hf2⟩
  have HD2 : Hid (DS w w2 F B Z L A R a ((tellN m.top (m.pop)).1)) := HD1.out.next hm2 hf2
  clear hm2 hf2
  go_wp2
  go_ret
  exact ⟨rfl, HD2.out.end⟩
theorem do36 : DoOK 36 := by
  intro w F B Z L A R m a hm ht hl ho hf
  have HD : Hid (DS w (wb w 36 a) F B Z L A R a m) := DS.start hm 36 a
  have HL : Hid (1 ≤ m.st.length ∧ m.st.length ≤ 100 ∧ m.ou.length ≤ 100) := ⟨by simp only [takesN, tkL, Int.toNat, List.getD_cons_zero, List.getD_cons_succ] at ht; omega, hl, ho⟩
  clear hm ht hl ho hf
  go_enter Tryz.func63, Tryz.ntmps63
  go_wp2_with fail
  refine (pop_any (wb w 36 a) _ B Z L A R (m) HD.out.mst (by have := HL.out; have := len_pop m; have := len_pop m.pop; have := len_push m.pop m.top; omega) (by have := HL.out; have := len_pop m; have := len_pop m.pop; have := len_push m.pop m.top; omega)).mono ?_
  rintro e w1 ⟨rfl, hm1, hf1⟩
  have HD1 : Hid (DS w w1 F B Z L A R a ((m).pop)) := HD.out.next hm1 hf1
  clear hm1 hf1
  obtain ⟨_, _, _, _, c11⟩ := HD1.out.mst.cells
  obtain ⟨f11, hm2, hf2⟩ := HD1.out.mst.put 11 (.int .i64 m.top) { m.pop with user := m.top } (fun _ => rfl) rfl rfl rfl rfl
  have HD2 : Hid (DS w (w1.setCell ⟨B, 11, none⟩ (.int .i64 m.top)) F B Z L A R a { m.pop with user := m.top }) := HD1.out.next hm2 hf2
  clear hm2 hf2
  go_wp2
  go_ret
  exact ⟨rfl, HD2.out.end⟩
end Go.Proofs.YtcaibgbhebldmaaGreat
