import Derived.Test.YtcaibgbhebldmaaGreatJ33
/-
  THE WALK OF do, INSTRUCTION BY INSTRUCTION (2).
-/
namespace Go.Proofs.YtcaibgbhebldmaaGreat
open Go.RowKit Go.Sort

theorem do1 : DoOK 1 := by
  intro w F B Z L A R m a hm ht hl ho hf
  have HD : Hid (DS w (wb w 1 a) F B Z L A R a m) := DS.start hm 1 a
  have HL : Hid (0 ≤ m.st.length ∧ m.st.length ≤ 100 ∧ m.ou.length ≤ 100) := ⟨by simp only [takesN, tkL, Int.toNat, List.getD_cons_zero, List.getD_cons_succ] at ht; omega, hl, ho⟩
  clear hm ht hl ho hf
  go_enter Tryz.func63, Tryz.ntmps63
  go_wp2_with fail
  refine (push_any (wb w 1 a) _ B Z L A R (m) a HD.out.mst (by have := HL.out; have := len_pop m; have := len_pop m.pop; have := len_push m.pop m.top; omega)).mono ?_
  rintro e w1 ⟨rfl, hm1, hf1⟩
  have HD1 : Hid (DS w w1 F B Z L A R a ((m).push a)) := HD.out.next hm1 hf1
  clear hm1 hf1
  go_wp2
  go_ret
  exact ⟨rfl, HD1.out.end⟩
theorem do2 : DoOK 2 := by
  intro w F B Z L A R m a hm ht hl ho hf
  have HD : Hid (DS w (wb w 2 a) F B Z L A R a m) := DS.start hm 2 a
  have HL : Hid (1 ≤ m.st.length ∧ m.st.length ≤ 100 ∧ m.ou.length ≤ 100) := ⟨by simp only [takesN, tkL, Int.toNat, List.getD_cons_zero, List.getD_cons_succ] at ht; omega, hl, ho⟩
  clear hm ht hl ho hf
  go_enter Tryz.func63, Tryz.ntmps63
  go_wp2_with fail
  refine (pop_any (wb w 2 a) _ B Z L A R (m) HD.out.mst (by have := HL.out; have := len_pop m; have := len_pop m.pop; have := len_push m.pop m.top; omega) (by have := HL.out; have := len_pop m; have := len_pop m.pop; have := len_push m.pop m.top; omega)).mono ?_
  rintro e w1 ⟨rfl, hm1, hf1⟩
  have HD1 : Hid (DS w w1 F B Z L A R a ((m).pop)) := HD.out.next hm1 hf1
  clear hm1 hf1
  go_wp2
  go_ret
  exact ⟨rfl, HD1.out.end⟩
theorem do3 : DoOK 3 := by
  intro w F B Z L A R m a hm ht hl ho hf
  have HD : Hid (DS w (wb w 3 a) F B Z L A R a m) := DS.start hm 3 a
  have HL : Hid (1 ≤ m.st.length ∧ m.st.length ≤ 100 ∧ m.ou.length ≤ 100) := ⟨by simp only [takesN, tkL, Int.toNat, List.getD_cons_zero, List.getD_cons_succ] at ht; omega, hl, ho⟩
  clear hm ht hl ho hf
  go_enter Tryz.func63, Tryz.ntmps63
  go_wp2_with fail
  refine (pop_any (wb w 3 a) _ B Z L A R (m) HD.out.mst (by have := HL.out; have := len_pop m; have := len_pop m.pop; have := len_push m.pop m.top; omega) (by have := HL.out; have := len_pop m; have := len_pop m.pop; have := len_push m.pop m.top; omega)).mono ?_
  rintro e w1 ⟨rfl, hm1, hf1⟩
  have HD1 : Hid (DS w w1 F B Z L A R a ((m).pop)) := HD.out.next hm1 hf1
  clear hm1 hf1
  go_wp2_with fail
  refine (push_any w1 _ B Z L A R (m.pop) m.top HD1.out.mst (by have := HL.out; have := len_pop m; have := len_pop m.pop; have := len_push m.pop m.top; omega)).mono ?_
  rintro e w2 ⟨rfl, hm2, hf2⟩
  have HD2 : Hid (DS w w2 F B Z L A R a ((m.pop).push m.top)) := HD1.out.next hm2 hf2
  clear hm2 hf2
  go_wp2_with fail
  refine (push_any w2 _ B Z L A R (m.pop.push m.top) m.top HD2.out.mst (by have := HL.out; have := len_pop m; have := len_pop m.pop; have := len_push m.pop m.top; omega)).mono ?_
  rintro e w3 ⟨rfl, hm3, hf3⟩
  have HD3 : Hid (DS w w3 F B Z L A R a ((m.pop.push m.top).push m.top)) := HD2.out.next hm3 hf3
  clear hm3 hf3
  go_wp2
  go_ret
  exact ⟨rfl, HD3.out.end⟩
set_option maxRecDepth 100000 in
theorem do4 : DoOK 4 := by
  intro w F B Z L A R m a hm ht hl ho hf
  obtain ⟨ha0, ha1⟩ := hf.1 (.inl rfl)
  obtain ⟨j, rfl⟩ := Int.eq_ofNat_of_zero_le ha0
  have HD : Hid (DS w (wb w 4 j) F B Z L A R j m) := DS.start hm 4 j
  have d1 := HD.out.d1
  obtain ⟨s0, s1, s2, s5, s7⟩ := HD.out.mst.slices
  have HP := push_any (wb w 4 j).drew _ B Z L A R m (m.lo.getD j 0) HD.out.drew.mst (by omega)
  obtain ⟨g, cap, hv, hcap, cg⟩ := HD.out.mst.loc j (by omega)
  rw [hv] at s5
  have HE : Hid (doN A R 4 (j : Int) m = (m.push (m.lo.getD j 0), 0)) := rfl
  generalize m.lo.getD j 0 = z at *
  generalize m.lo.length = n at *
  clear hm ht hl ho hf hv s0 s1 s2 s7
  go_enter Tryz.func63, Tryz.ntmps63
  go_wp2_with fail
  go_region_with (go_at_call 76; refine HP.mono ?_; rintro e w1 ⟨rfl, hm1, hf1⟩)
  all_goals (
    have HD1 : Hid (DS w w1 F B Z L A R j (m.push z)) := HD.out.drew.next hm1 hf1
    clear hm1 hf1
    go_wp2
    go_ret
    exact ⟨by rw [HE.out]; rfl, by rw [HE.out]; exact HD1.out.end⟩)
set_option maxRecDepth 100000 in
theorem do5 : DoOK 5 := by
  intro w F B Z L A R m a hm ht hl ho hf
  obtain ⟨ha0, ha1⟩ := hf.1 (.inr rfl)
  obtain ⟨j, rfl⟩ := Int.eq_ofNat_of_zero_le ha0
  have HD : Hid (DS w (wb w 5 j) F B Z L A R j m) := DS.start hm 5 j
  have d1 := HD.out.d1
  obtain ⟨s0, s1, s2, s5, s7⟩ := HD.out.mst.slices
  have h1 : 1 ≤ m.st.length := by simp only [takesN, tkL, Int.toNat, List.getD_cons_zero, List.getD_cons_succ] at ht; omega
  have HP := pop_any (wb w 5 j).drew _ B Z L A R m HD.out.drew.mst (by omega) (by omega)
  obtain ⟨g, cap, hv, hcap, cg⟩ := HD.out.mst.loc j (by omega)
  have HJ : Hid (j < m.lo.length) := by show j < m.lo.length; omega
  have HV : Hid (Z.lv = .slice (some ⟨g, 0, none⟩) m.lo.length cap) := hv
  rw [hv] at s5
  have HE : Hid (doN A R 5 (j : Int) m = ({ m.pop with lo := m.lo.set j m.top }, 0)) := rfl
  obtain ⟨n, hn⟩ : ∃ n, n = m.lo.length := ⟨_, rfl⟩
  rw [← hn] at s5 hcap ha1 HV
  clear hm ht hl ho hf hv s0 s2 s1 s7 cg hn h1
  go_enter Tryz.func63, Tryz.ntmps63
  go_wp2_with fail
  go_region_held (fun w' => w'.cell? ⟨B, 5, none⟩ = some (.slice (some ⟨g, 0, none⟩) n cap) ∧ w'.cell? ⟨w.heap.size, 1, none⟩ = some (.int .i64 (j : Int))) (first | exact ⟨u5, u1⟩ | go_keep) ((go_at_call 75; refine HP.mono ?_; rintro e w1 ⟨rfl, hm1, hf1⟩; obtain ⟨_, _, _, t5, _⟩ := hm1.slices; rw [HV.out] at t5; have t1 := hf1.cell (.inr rfl) HD.out.drew.d1; obtain ⟨cg, fg, hm2, hf2⟩ := hm1.save HV.out j HJ.out m.top; have HD2 : Hid (DS w (w1.setCell ⟨g, j, none⟩ (.int .i64 m.top)) F B Z L A R j { m.pop with lo := m.lo.set j m.top }) := (HD.out.drew.next hm1 hf1).next hm2 hf2; have u1 := HD2.out.d1; obtain ⟨_, _, _, u5, _⟩ := HD2.out.mst.slices; rw [HV.out] at u5; clear hm1 hf1 hm2 hf2))
  all_goals (
    go_wp2
    go_ret
    exact ⟨by rw [HE.out]; rfl, by rw [HE.out]; exact HD2.out.end⟩)
set_option maxRecDepth 100000 in
theorem do6 : DoOK 6 := by
  intro w F B Z L A R m a hm ht hl ho hf
  obtain ⟨ha0, ha1⟩ := hf.2.1 rfl
  obtain ⟨j, rfl⟩ := Int.eq_ofNat_of_zero_le ha0
  have HD : Hid (DS w (wb w 6 j) F B Z L A R j m) := DS.start hm 6 j
  have d1 := HD.out.d1
  obtain ⟨s0, s1, s2, s5, s7⟩ := HD.out.mst.slices
  have HP := push_any (wb w 6 j).drew _ B Z L A R m (A.getD j 0) HD.out.drew.mst (by omega)
  obtain ⟨g, cap, hv, hcap, cg⟩ := HD.out.mst.arg j (by omega)
  rw [hv] at s1
  have HE : Hid (doN A R 6 (j : Int) m = (m.push (A.getD j 0), 0)) := rfl
  generalize A.getD j 0 = z at *
  generalize A.length = n at *
  clear hm ht hl ho hf hv s0 s5 s2 s7
  go_enter Tryz.func63, Tryz.ntmps63
  go_wp2_with fail
  go_region_with (go_at_call 76; refine HP.mono ?_; rintro e w1 ⟨rfl, hm1, hf1⟩)
  all_goals (
    have HD1 : Hid (DS w w1 F B Z L A R j (m.push z)) := HD.out.drew.next hm1 hf1
    clear hm1 hf1
    go_wp2
    go_ret
    exact ⟨by rw [HE.out]; rfl, by rw [HE.out]; exact HD1.out.end⟩)
theorem do7 : DoOK 7 := by
  intro w F B Z L A R m a hm ht hl ho hf
  have HD : Hid (DS w (wb w 7 a) F B Z L A R a m) := DS.start hm 7 a
  have HL : Hid (0 ≤ m.st.length ∧ m.st.length ≤ 100 ∧ m.ou.length ≤ 100) := ⟨by simp only [takesN, tkL, Int.toNat, List.getD_cons_zero, List.getD_cons_succ] at ht; omega, hl, ho⟩
  clear hm ht hl ho hf
  go_enter Tryz.func63, Tryz.ntmps63
  go_wp2_with fail
  refine (get_any (wb w 7 a) _ B Z L A R (m) a HD.out.mst (by have := HL.out; have := len_pop m; have := len_pop m.pop; have := len_push m.pop m.top; omega)).mono ?_
  rintro e w1 ⟨rfl, hm1, hf1⟩
  have HD1 : Hid (DS w w1 F B Z L A R a ((getN R a (m)).1)) := HD.out.next hm1 hf1
  clear hm1 hf1
  go_wp2
  go_ret
  exact ⟨rfl, HD1.out.end⟩
set_option maxRecDepth 100000 in
theorem do8 : DoOK 8 := by
  intro w F B Z L A R m a hm ht hl ho hf
  obtain ⟨ha0, ha1⟩ := hf.2.2 rfl
  obtain ⟨j, rfl⟩ := Int.eq_ofNat_of_zero_le ha0
  have HD : Hid (DS w (wb w 8 j) F B Z L A R j m) := DS.start hm 8 j
  have d1 := HD.out.d1
  obtain ⟨s0, s1, s2, s5, s7⟩ := HD.out.mst.slices
  have HP := push_any (wb w 8 j).drew _ B Z L A R m (trN (rd R j).1) HD.out.drew.mst (by omega)
  obtain ⟨g, cap, hv, hcap, cg⟩ := HD.out.mst.rd j (by omega)
  rw [hv] at s2
  have HE : Hid (doN A R 8 (j : Int) m = (m.push (trN (rd R j).1), 0)) := rfl
  generalize (rd R j).1 = z at *
  generalize R.length = n at *
  clear hm ht hl ho hf hv s0 s5 s1 s7
  go_enter Tryz.func63, Tryz.ntmps63
  go_wp2_with fail
  go_region_with (first | (go_at_call 78; refine (truth_any _ z).mono ?_; rintro e w9 ⟨rfl, rfl⟩) | (go_at_call 76; refine HP.mono ?_; rintro e w1 ⟨rfl, hm1, hf1⟩))
  all_goals (
    have HD1 : Hid (DS w w1 F B Z L A R j (m.push (trN z))) := HD.out.drew.next hm1 hf1
    clear hm1 hf1
    go_wp2
    go_ret
    exact ⟨by rw [HE.out]; rfl, by rw [HE.out]; exact HD1.out.end⟩)
end Go.Proofs.YtcaibgbhebldmaaGreat
