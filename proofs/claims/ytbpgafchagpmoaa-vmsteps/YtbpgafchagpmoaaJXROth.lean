import Derived.Test.YtbpgafchagpmoaaJXRSim
/-
  THE WALK OF THE DOCUMENT's other, NAME BY NAME.
-/
namespace Go.Proofs.Ytbpgafchagpmoaa
open Go.RowKit Go.Sort

/-- what stands behind one of the other instructions: where it is done, the state; where it fails, enough of it -/
structure OthP (A : List Int) (R : List C) (op a : Int) (m m' : M) (u : Int) : Prop where
  at_ : m'.at_ = m.at_
  steps : m'.steps = m.steps
  ok : (doN A R op a m).2 = 0 → m' = (doN A R op a m).1
  no : (doN A R op a m).2 ≠ 0 → u = if op = 36 then m.top else 0
abbrev OthOK (op : Int) (nm : Value) : Prop := ∀ (w : World) (F : Nat → Prop) (B : Nat) (c : MC) (L : List K) (A : List Int) (R : List C) (m : M) (a : Int), MRt w F B c m → Giv w F c L A R → takesN op ≤ (m.st.length : Int) → m.st.length ≤ 100 → m.ou.length ≤ 100 → In64 m.top → In64 m.pop.top →
    Calls Try.prog 46 #[pm B, nm, .int .i64 a] w fun e w' => ∃ m' u, e = .returned (.tuple #[.int .i64 (doN A R op a m).2, .int .i64 u]) ∧ MRt w' F B c m' ∧ Fr F w w' ∧ OthP A R op a m m' u
theorem pair_split (op : Int) (m : M) : (pairN op m.pop.top m.top).2 = (pairM op m).2 ∧ ((pairM op m).2 = 0 → m.pop.pop.push (pairN op m.pop.top m.top).1 = (pairM op m).1) := by
  unfold pairM
  split
  · rename_i h; exact ⟨h, fun _ => rfl⟩
  · rename_i h; exact ⟨rfl, fun e => absurd e h⟩
set_option maxRecDepth 100000 in
set_option maxHeartbeats 1000000 in
theorem oth9 : OthOK 9 (.string ⟨#[103, 101, 116, 120]⟩) := by
  intro w F B c L A R m a hm hg ht hl ho hx hy
  have HM : Hid (MRt w F B c m) := hm
  have HG : Hid (Giv w F c L A R) := hg
  have HI : Hid (In64 m.top ∧ In64 m.pop.top) := ⟨hx, hy⟩
  have HL : Hid (1 ≤ m.st.length ∧ m.st.length ≤ 100 ∧ m.ou.length ≤ 100) := ⟨by have := tk1 ht _ rfl; simp only [takesN, tkL, Int.toNat, List.getD_cons_zero, List.getD_cons_succ] at ht; omega, hl, ho⟩
  clear hm hg ht hl ho hx hy
  go_enter Try.func46, Try.ntmps46
  go_wp2_with fail
  refine (rtake_any w F B c (m) HM.out (by have := HL.out; have := len_pop m; have := len_pop m.pop; have := len_push m.pop m.top; omega) (by have := HL.out; have := len_pop m; have := len_pop m.pop; have := len_push m.pop m.top; omega)).mono ?_
  rintro e w1 ⟨rfl, hm1, hf1⟩
  have HM1 : Hid (MRt w1 F B c (m).pop) := hm1
  have HF1 : Hid (Fr F w w1) := hf1
  clear hm1 hf1
  have HE : Hid (doN A R 9 a m = getN R m.top m.pop) := rfl
  by_cases h0 : 0 ≤ m.top ∧ m.top < (R.length : Int)
  · have HE1 : Hid (doN A R 9 a m = (m.pop.push (rdV (rd R m.top.toNat)), 0)) := by show _ = _; rw [HE.out, getN, if_pos h0]
    have hgr := (HG.out.next HF1.out)
    obtain ⟨_, _, _, _, c6⟩ := HM1.out.nums
    rw [hgr.lr] at c6
    have HV := rvalue_any w1 F B c m.pop R m.top.toNat HM1.out hgr.reads hgr.lr (by omega)
    rw [Int.toNat_of_nonneg h0.1] at HV
    generalize rdV (rd R m.top.toNat) = v at *
    obtain ⟨z, hz⟩ : ∃ z, z = m.top := ⟨_, rfl⟩
    rw [← hz] at h0 HV ⊢
    have hn0 : ¬ z < 0 := by omega
    have hn1 : ¬ (R.length : Int) ≤ z := by omega
    have HZ : Hid (z = m.top) := hz
    clear h0 hgr hz
    generalize R.length = n at *
    go_wp2_with fail
    refine HV.mono ?_
    rintro e w2 ⟨rfl, hm2, hf2, _⟩
    have HM2 : Hid (MRt w2 F B c m.pop) := hm2
    have HF2 : Hid (Fr F w w2) := HF1.out.trans hf2
    clear hm2 hf2 HV
    go_wp2_with fail
    refine (rlay_any w2 F B c m.pop v HM2.out (by have := HL.out; have := len_pop m; have := len_pop m.pop; have := len_push m.pop m.top; omega)).mono ?_
    rintro e w3 ⟨rfl, hm3, hf3⟩
    have HX : Hid (MRt w3 F B c (m.pop.push v) ∧ Fr F w w3) := ⟨hm3, HF2.out.trans hf3⟩
    clear hm3 hf3
    go_wp2
    go_ret2
    exact ⟨m.pop.push v, 0, by rw [HE1.out]; rfl, HX.out.1, HX.out.2, rfl, rfl, fun _ => by rw [HE1.out], fun h => absurd (by rw [HE1.out]) h⟩
  · have HE1 : Hid (doN A R 9 a m = (m.pop, 203)) := by show _ = _; rw [HE.out, getN, if_neg h0]
    obtain ⟨_, _, _, _, c6⟩ := HM1.out.nums
    rw [HG.out.lr] at c6
    obtain ⟨z, hz⟩ : ∃ z, z = m.top := ⟨_, rfl⟩
    rw [← hz] at h0 ⊢
    have HZ : Hid (z = m.top) := hz
    clear hz
    by_cases hn0 : z < 0
    · generalize R.length = n at *
      clear h0
      go_wp2
      go_ret2
      exact ⟨m.pop, 0, by rw [HE1.out]; rfl, HM1.out, HF1.out, rfl, rfl, (fun h => by rw [HE1.out] at h; cases h), fun _ => rfl⟩
    · have hn1 : (R.length : Int) ≤ z := by omega
      generalize R.length = n at *
      clear h0
      go_wp2
      go_ret2
      exact ⟨m.pop, 0, by rw [HE1.out]; rfl, HM1.out, HF1.out, rfl, rfl, (fun h => by rw [HE1.out] at h; cases h), fun _ => rfl⟩
set_option maxRecDepth 100000 in
set_option maxHeartbeats 1000000 in
theorem oth32 : OthOK 32 (.string ⟨#[112, 117, 116]⟩) := by
  intro w F B c L A R m a hm hg ht hl ho hx hy
  have HM : Hid (MRt w F B c m) := hm
  have HG : Hid (Giv w F c L A R) := hg
  have HI : Hid (In64 m.top ∧ In64 m.pop.top) := ⟨hx, hy⟩
  have HL : Hid (1 ≤ m.st.length ∧ m.st.length ≤ 100 ∧ m.ou.length ≤ 100) := ⟨by have := tk1 ht _ rfl; simp only [takesN, tkL, Int.toNat, List.getD_cons_zero, List.getD_cons_succ] at ht; omega, hl, ho⟩
  clear hm hg ht hl ho hx hy
  go_enter Try.func46, Try.ntmps46
  go_wp2_with fail
  refine (rtake_any w F B c (m) HM.out (by have := HL.out; have := len_pop m; have := len_pop m.pop; have := len_push m.pop m.top; omega) (by have := HL.out; have := len_pop m; have := len_pop m.pop; have := len_push m.pop m.top; omega)).mono ?_
  rintro e w1 ⟨rfl, hm1, hf1⟩
  have HM1 : Hid (MRt w1 F B c (m).pop) := hm1
  have HF1 : Hid (Fr F w w1) := hf1
  clear hm1 hf1
  have HP := rput_any w1 F B c (m.pop) (a) (1) (m.top) HM1.out
  have HE : Hid (doN A R 32 a m = putN (a) (1, m.top) (m.pop)) := rfl
  have HQ : Hid ((putN (a) (1, m.top) (m.pop)).1.at_ = m.at_ ∧ (putN (a) (1, m.top) (m.pop)).1.steps = m.steps) := by
    show (putN (a) (1, m.top) (m.pop)).1.at_ = m.at_ ∧ (putN (a) (1, m.top) (m.pop)).1.steps = m.steps
    unfold putN; split <;> exact ⟨rfl, rfl⟩
  generalize putN (a) (1, m.top) (m.pop) = r at *
  obtain ⟨m5, f5⟩ := r
  go_wp2_with fail
  refine HP.mono ?_
  rintro e w2 ⟨rfl, hm2, hf2⟩
  have HX : Hid (MRt w2 F B c m5 ∧ Fr F w w2) := ⟨hm2, HF1.out.trans hf2⟩
  clear hm2 hf2 HP
  go_wp2
  go_ret2
  exact ⟨m5, 0, by rw [HE.out]; rfl, HX.out.1, HX.out.2, HQ.out.1, HQ.out.2, fun _ => by rw [HE.out], fun _ => rfl⟩
set_option maxRecDepth 100000 in
set_option maxHeartbeats 1000000 in
theorem oth33 : OthOK 33 (.string ⟨#[100, 101, 108]⟩) := by
  intro w F B c L A R m a hm hg ht hl ho hx hy
  have HM : Hid (MRt w F B c m) := hm
  have HG : Hid (Giv w F c L A R) := hg
  have HI : Hid (In64 m.top ∧ In64 m.pop.top) := ⟨hx, hy⟩
  have HL : Hid (0 ≤ m.st.length ∧ m.st.length ≤ 100 ∧ m.ou.length ≤ 100) := ⟨by have := tk1 ht _ rfl; simp only [takesN, tkL, Int.toNat, List.getD_cons_zero, List.getD_cons_succ] at ht; omega, hl, ho⟩
  clear hm hg ht hl ho hx hy
  go_enter Try.func46, Try.ntmps46
  have HP := rput_any w F B c (m) (a) (2) (0) HM.out
  have HE : Hid (doN A R 33 a m = putN (a) (2, 0) (m)) := rfl
  have HQ : Hid ((putN (a) (2, 0) (m)).1.at_ = m.at_ ∧ (putN (a) (2, 0) (m)).1.steps = m.steps) := by
    show (putN (a) (2, 0) (m)).1.at_ = m.at_ ∧ (putN (a) (2, 0) (m)).1.steps = m.steps
    unfold putN; split <;> exact ⟨rfl, rfl⟩
  generalize putN (a) (2, 0) (m) = r at *
  obtain ⟨m5, f5⟩ := r
  go_wp2_with fail
  refine HP.mono ?_
  rintro e w1 ⟨rfl, hm1, hf1⟩
  have HX : Hid (MRt w1 F B c m5 ∧ Fr F w w1) := ⟨hm1, hf1⟩
  clear hm1 hf1 HP
  go_wp2
  go_ret2
  exact ⟨m5, 0, by rw [HE.out]; rfl, HX.out.1, HX.out.2, HQ.out.1, HQ.out.2, fun _ => by rw [HE.out], fun _ => rfl⟩
set_option maxRecDepth 100000 in
set_option maxHeartbeats 1000000 in
theorem oth34 : OthOK 34 (.string ⟨#[112, 117, 116, 120]⟩) := by
  intro w F B c L A R m a hm hg ht hl ho hx hy
  have HM : Hid (MRt w F B c m) := hm
  have HG : Hid (Giv w F c L A R) := hg
  have HI : Hid (In64 m.top ∧ In64 m.pop.top) := ⟨hx, hy⟩
  have HL : Hid (2 ≤ m.st.length ∧ m.st.length ≤ 100 ∧ m.ou.length ≤ 100) := ⟨by have := tk1 ht _ rfl; simp only [takesN, tkL, Int.toNat, List.getD_cons_zero, List.getD_cons_succ] at ht; omega, hl, ho⟩
  clear hm hg ht hl ho hx hy
  go_enter Try.func46, Try.ntmps46
  go_wp2_with fail
  refine (rtake_any w F B c (m) HM.out (by have := HL.out; have := len_pop m; have := len_pop m.pop; have := len_push m.pop m.top; omega) (by have := HL.out; have := len_pop m; have := len_pop m.pop; have := len_push m.pop m.top; omega)).mono ?_
  rintro e w1 ⟨rfl, hm1, hf1⟩
  have HM1 : Hid (MRt w1 F B c (m).pop) := hm1
  have HF1 : Hid (Fr F w w1) := hf1
  clear hm1 hf1
  go_wp2_with fail
  refine (rtake_any w1 F B c (m.pop) HM1.out (by have := HL.out; have := len_pop m; have := len_pop m.pop; have := len_push m.pop m.top; omega) (by have := HL.out; have := len_pop m; have := len_pop m.pop; have := len_push m.pop m.top; omega)).mono ?_
  rintro e w2 ⟨rfl, hm2, hf2⟩
  have HM2 : Hid (MRt w2 F B c (m.pop).pop) := hm2
  have HF2 : Hid (Fr F w w2) := HF1.out.trans hf2
  clear hm2 hf2
  have HP := rput_any w2 F B c (m.pop.pop) (m.pop.top) (1) (m.top) HM2.out
  have HE : Hid (doN A R 34 a m = putN (m.pop.top) (1, m.top) (m.pop.pop)) := rfl
  have HQ : Hid ((putN (m.pop.top) (1, m.top) (m.pop.pop)).1.at_ = m.at_ ∧ (putN (m.pop.top) (1, m.top) (m.pop.pop)).1.steps = m.steps) := by
    show (putN (m.pop.top) (1, m.top) (m.pop.pop)).1.at_ = m.at_ ∧ (putN (m.pop.top) (1, m.top) (m.pop.pop)).1.steps = m.steps
    unfold putN; split <;> exact ⟨rfl, rfl⟩
  generalize putN (m.pop.top) (1, m.top) (m.pop.pop) = r at *
  obtain ⟨m5, f5⟩ := r
  go_wp2_with fail
  refine HP.mono ?_
  rintro e w3 ⟨rfl, hm3, hf3⟩
  have HX : Hid (MRt w3 F B c m5 ∧ Fr F w w3) := ⟨hm3, HF2.out.trans hf3⟩
  clear hm3 hf3 HP
  go_wp2
  go_ret2
  exact ⟨m5, 0, by rw [HE.out]; rfl, HX.out.1, HX.out.2, HQ.out.1, HQ.out.2, fun _ => by rw [HE.out], fun _ => rfl⟩
set_option maxRecDepth 100000 in
set_option maxHeartbeats 1000000 in
theorem oth35 : OthOK 35 (.string ⟨#[111, 117, 116]⟩) := by
  intro w F B c L A R m a hm hg ht hl ho hx hy
  have HM : Hid (MRt w F B c m) := hm
  have HG : Hid (Giv w F c L A R) := hg
  have HI : Hid (In64 m.top ∧ In64 m.pop.top) := ⟨hx, hy⟩
  have HL : Hid (1 ≤ m.st.length ∧ m.st.length ≤ 100 ∧ m.ou.length ≤ 100) := ⟨by have := tk1 ht _ rfl; simp only [takesN, tkL, Int.toNat, List.getD_cons_zero, List.getD_cons_succ] at ht; omega, hl, ho⟩
  clear hm hg ht hl ho hx hy
  go_enter Try.func46, Try.ntmps46
  go_wp2_with fail
  refine (rtake_any w F B c (m) HM.out (by have := HL.out; have := len_pop m; have := len_pop m.pop; have := len_push m.pop m.top; omega) (by have := HL.out; have := len_pop m; have := len_pop m.pop; have := len_push m.pop m.top; omega)).mono ?_
  rintro e w1 ⟨rfl, hm1, hf1⟩
  have HM1 : Hid (MRt w1 F B c (m).pop) := hm1
  have HF1 : Hid (Fr F w w1) := hf1
  clear hm1 hf1
  have HE : Hid (doN A R 35 a m = tellN m.top m.pop) := rfl
  obtain ⟨O, h, x1, hF⟩ := HM1.out
  have c9 : w1.cell? ⟨B, 9, none⟩ = some h.ov := x1.cell 9
  obtain ⟨ao, cap, hov, _⟩ := own_slice x1.out
  by_cases h16 : m.ou.length = 16
  · have HE1 : Hid (doN A R 35 a m = (m.pop, 204)) := by show _ = _; rw [HE.out, tellN, if_pos (show m.pop.ou.length = 16 from h16)]
    rw [hov, show m.pop.ou = m.ou from rfl, h16] at c9
    clear x1 hF hov
    generalize m.top = z at *
    go_wp2
    go_ret2
    exact ⟨m.pop, 0, by rw [HE1.out]; rfl, HM1.out, HF1.out, rfl, rfl, (fun h => by rw [HE1.out] at h; cases h), fun _ => rfl⟩
  · have HE1 : Hid (doN A R 35 a m = ({ m.pop with ou := m.ou ++ [m.top] }, 0)) := by show _ = _; rw [HE.out, tellN, if_neg (show ¬ m.pop.ou.length = 16 from h16)]; rfl
    have hlen : ((m.ou.length : Int) == 16) = false := by simp; omega
    rw [hov, show m.pop.ou = m.ou from rfl] at c9
    have HX1 : Hid (MR w1 B O h c m.pop ∧ Apt w1 F O ∧ h.ov = .slice ao m.ou.length cap) := ⟨x1, hF, hov⟩
    have HX2 : Hid (∀ o : Obj, MR (w1.alloc o) B O h c m.pop ∧ Apt (w1.alloc o) F O ∧ Fr F w1 (w1.alloc o)) := fun o => ⟨x1.kept ((Below.refl _ _).alloc (Nat.le_refl _) _), fun k hk => ⟨(hF k hk).1, by have := (hF k hk).2; simp; omega⟩, Fr.ofBelow ((Below.refl _ _).alloc (Nat.le_refl _) _) (fun k hk => (hF k hk).2)⟩
    clear x1 hF hov
    obtain ⟨z, hz⟩ : ∃ z, z = m.top := ⟨_, rfl⟩
    rw [← hz] at HE1 ⊢
    clear hz
    obtain ⟨no, hno⟩ : ∃ no, no = m.ou.length := ⟨_, rfl⟩
    rw [← hno] at c9 hlen HX1
    have HN : Hid (no = m.ou.length) := hno
    clear hno h16
    go_wp2_with (at_builtin; refine wpList_append_64 rfl _ _ rfl 0 (.slice ao no cap) m.ou rfl (by rw [← HX1.out.2.2]; exact (HX2.out _).1.out) _ z rfl (cell_new64 _ _) (by have := HL.out; omega) (Nat.zero_le _) ?_; intro v' w' h1 h2 h3; rw [← HX1.out.2.2] at h2 h3; obtain ⟨ao', n', cap', rfl, c9', f9, HG'⟩ := (HX2.out _).1.outed (HX2.out _).2.1 h1 h2 h3; clear h1 h2 h3)
    go_ret2
    exact ⟨{ m.pop with ou := m.ou ++ [z] }, 0, by rw [HE1.out]; rfl, HG'.out.1, HF1.out.trans ((HX2.out _).2.2.trans HG'.out.2), rfl, rfl, fun _ => by rw [HE1.out], fun h => absurd (by rw [HE1.out]) h⟩
set_option maxRecDepth 100000 in
set_option maxHeartbeats 1000000 in
theorem oth36 : OthOK 36 (.string ⟨#[97, 98, 111, 114, 116]⟩) := by
  intro w F B c L A R m a hm hg ht hl ho hx hy
  have HM : Hid (MRt w F B c m) := hm
  have HG : Hid (Giv w F c L A R) := hg
  have HI : Hid (In64 m.top ∧ In64 m.pop.top) := ⟨hx, hy⟩
  have HL : Hid (1 ≤ m.st.length ∧ m.st.length ≤ 100 ∧ m.ou.length ≤ 100) := ⟨by have := tk1 ht _ rfl; simp only [takesN, tkL, Int.toNat, List.getD_cons_zero, List.getD_cons_succ] at ht; omega, hl, ho⟩
  clear hm hg ht hl ho hx hy
  go_enter Try.func46, Try.ntmps46
  go_wp2_with fail
  refine (rtake_any w F B c (m) HM.out (by have := HL.out; have := len_pop m; have := len_pop m.pop; have := len_push m.pop m.top; omega) (by have := HL.out; have := len_pop m; have := len_pop m.pop; have := len_push m.pop m.top; omega)).mono ?_
  rintro e w1 ⟨rfl, hm1, hf1⟩
  have HM1 : Hid (MRt w1 F B c (m).pop) := hm1
  have HF1 : Hid (Fr F w w1) := hf1
  clear hm1 hf1
  obtain ⟨z, hz⟩ : ∃ z, z = m.top := ⟨_, rfl⟩
  rw [← hz]
  have HZ : Hid (z = m.top) := hz
  clear hz
  go_wp2
  go_ret2
  exact ⟨m.pop, z, rfl, HM1.out, HF1.out, rfl, rfl, (fun h => by cases h), fun _ => HZ.out⟩
set_option maxRecDepth 100000 in
set_option maxHeartbeats 1000000 in
theorem oth10 : OthOK 10 (.string ⟨#[97, 100, 100]⟩) := by
  intro w F B c L A R m a hm hg ht hl ho hx hy
  have HM : Hid (MRt w F B c m) := hm
  have HG : Hid (Giv w F c L A R) := hg
  have HI : Hid (In64 m.top ∧ In64 m.pop.top) := ⟨hx, hy⟩
  have HL : Hid (2 ≤ m.st.length ∧ m.st.length ≤ 100 ∧ m.ou.length ≤ 100) := ⟨by have := tk1 ht _ rfl; simp only [takesN, tkL, Int.toNat, List.getD_cons_zero, List.getD_cons_succ] at ht; omega, hl, ho⟩
  clear hm hg ht hl ho hx hy
  go_enter Try.func46, Try.ntmps46
  go_wp2_with fail
  refine (rtake_any w F B c (m) HM.out (by have := HL.out; have := len_pop m; have := len_pop m.pop; have := len_push m.pop m.top; omega) (by have := HL.out; have := len_pop m; have := len_pop m.pop; have := len_push m.pop m.top; omega)).mono ?_
  rintro e w1 ⟨rfl, hm1, hf1⟩
  have HM1 : Hid (MRt w1 F B c (m).pop) := hm1
  have HF1 : Hid (Fr F w w1) := hf1
  clear hm1 hf1
  go_wp2_with fail
  refine (rtake_any w1 F B c (m.pop) HM1.out (by have := HL.out; have := len_pop m; have := len_pop m.pop; have := len_push m.pop m.top; omega) (by have := HL.out; have := len_pop m; have := len_pop m.pop; have := len_push m.pop m.top; omega)).mono ?_
  rintro e w2 ⟨rfl, hm2, hf2⟩
  have HM2 : Hid (MRt w2 F B c (m.pop).pop) := hm2
  have HF2 : Hid (Fr F w w2) := HF1.out.trans hf2
  clear hm2 hf2
  have HP := two10 w2 m.pop.top m.top HI.out.2 HI.out.1
  have HE : Hid (doN A R 10 a m = pairM 10 m) := rfl
  have HE2 : Hid ((pairN 10 m.pop.top m.top).2 = (pairM 10 m).2 ∧ ((pairM 10 m).2 = 0 → m.pop.pop.push (pairN 10 m.pop.top m.top).1 = (pairM 10 m).1)) := pair_split 10 m
  rw [pairRet] at HP
  generalize pairN 10 m.pop.top m.top = r at *
  obtain ⟨z, f5⟩ := r
  go_wp2_with fail
  refine HP.mono ?_
  rintro e w3 ⟨rfl, rfl⟩
  go_wp2_with fail
  refine (rlay_any w3 F B c m.pop.pop z HM2.out (by have := HL.out; have := len_pop m; have := len_pop m.pop; have := len_push m.pop m.top; omega)).mono ?_
  rintro e w4 ⟨rfl, hm4, hf4⟩
  have HX : Hid (MRt w4 F B c (m.pop.pop.push z) ∧ Fr F w w4) := ⟨hm4, HF2.out.trans hf4⟩
  clear hm4 hf4 HP
  go_wp2
  go_ret2
  exact ⟨m.pop.pop.push z, 0, by rw [HE.out, ← HE2.out.1]; rfl, HX.out.1, HX.out.2, rfl, rfl, fun h => by rw [HE.out] at h ⊢; exact HE2.out.2 h, fun _ => rfl⟩
set_option maxRecDepth 100000 in
set_option maxHeartbeats 1000000 in
theorem oth11 : OthOK 11 (.string ⟨#[115, 117, 98]⟩) := by
  intro w F B c L A R m a hm hg ht hl ho hx hy
  have HM : Hid (MRt w F B c m) := hm
  have HG : Hid (Giv w F c L A R) := hg
  have HI : Hid (In64 m.top ∧ In64 m.pop.top) := ⟨hx, hy⟩
  have HL : Hid (2 ≤ m.st.length ∧ m.st.length ≤ 100 ∧ m.ou.length ≤ 100) := ⟨by have := tk1 ht _ rfl; simp only [takesN, tkL, Int.toNat, List.getD_cons_zero, List.getD_cons_succ] at ht; omega, hl, ho⟩
  clear hm hg ht hl ho hx hy
  go_enter Try.func46, Try.ntmps46
  go_wp2_with fail
  refine (rtake_any w F B c (m) HM.out (by have := HL.out; have := len_pop m; have := len_pop m.pop; have := len_push m.pop m.top; omega) (by have := HL.out; have := len_pop m; have := len_pop m.pop; have := len_push m.pop m.top; omega)).mono ?_
  rintro e w1 ⟨rfl, hm1, hf1⟩
  have HM1 : Hid (MRt w1 F B c (m).pop) := hm1
  have HF1 : Hid (Fr F w w1) := hf1
  clear hm1 hf1
  go_wp2_with fail
  refine (rtake_any w1 F B c (m.pop) HM1.out (by have := HL.out; have := len_pop m; have := len_pop m.pop; have := len_push m.pop m.top; omega) (by have := HL.out; have := len_pop m; have := len_pop m.pop; have := len_push m.pop m.top; omega)).mono ?_
  rintro e w2 ⟨rfl, hm2, hf2⟩
  have HM2 : Hid (MRt w2 F B c (m.pop).pop) := hm2
  have HF2 : Hid (Fr F w w2) := HF1.out.trans hf2
  clear hm2 hf2
  have HP := two11 w2 m.pop.top m.top HI.out.2 HI.out.1
  have HE : Hid (doN A R 11 a m = pairM 11 m) := rfl
  have HE2 : Hid ((pairN 11 m.pop.top m.top).2 = (pairM 11 m).2 ∧ ((pairM 11 m).2 = 0 → m.pop.pop.push (pairN 11 m.pop.top m.top).1 = (pairM 11 m).1)) := pair_split 11 m
  rw [pairRet] at HP
  generalize pairN 11 m.pop.top m.top = r at *
  obtain ⟨z, f5⟩ := r
  go_wp2_with fail
  refine HP.mono ?_
  rintro e w3 ⟨rfl, rfl⟩
  go_wp2_with fail
  refine (rlay_any w3 F B c m.pop.pop z HM2.out (by have := HL.out; have := len_pop m; have := len_pop m.pop; have := len_push m.pop m.top; omega)).mono ?_
  rintro e w4 ⟨rfl, hm4, hf4⟩
  have HX : Hid (MRt w4 F B c (m.pop.pop.push z) ∧ Fr F w w4) := ⟨hm4, HF2.out.trans hf4⟩
  clear hm4 hf4 HP
  go_wp2
  go_ret2
  exact ⟨m.pop.pop.push z, 0, by rw [HE.out, ← HE2.out.1]; rfl, HX.out.1, HX.out.2, rfl, rfl, fun h => by rw [HE.out] at h ⊢; exact HE2.out.2 h, fun _ => rfl⟩
set_option maxRecDepth 100000 in
set_option maxHeartbeats 1000000 in
theorem oth12 : OthOK 12 (.string ⟨#[109, 117, 108]⟩) := by
  intro w F B c L A R m a hm hg ht hl ho hx hy
  have HM : Hid (MRt w F B c m) := hm
  have HG : Hid (Giv w F c L A R) := hg
  have HI : Hid (In64 m.top ∧ In64 m.pop.top) := ⟨hx, hy⟩
  have HL : Hid (2 ≤ m.st.length ∧ m.st.length ≤ 100 ∧ m.ou.length ≤ 100) := ⟨by have := tk1 ht _ rfl; simp only [takesN, tkL, Int.toNat, List.getD_cons_zero, List.getD_cons_succ] at ht; omega, hl, ho⟩
  clear hm hg ht hl ho hx hy
  go_enter Try.func46, Try.ntmps46
  go_wp2_with fail
  refine (rtake_any w F B c (m) HM.out (by have := HL.out; have := len_pop m; have := len_pop m.pop; have := len_push m.pop m.top; omega) (by have := HL.out; have := len_pop m; have := len_pop m.pop; have := len_push m.pop m.top; omega)).mono ?_
  rintro e w1 ⟨rfl, hm1, hf1⟩
  have HM1 : Hid (MRt w1 F B c (m).pop) := hm1
  have HF1 : Hid (Fr F w w1) := hf1
  clear hm1 hf1
  go_wp2_with fail
  refine (rtake_any w1 F B c (m.pop) HM1.out (by have := HL.out; have := len_pop m; have := len_pop m.pop; have := len_push m.pop m.top; omega) (by have := HL.out; have := len_pop m; have := len_pop m.pop; have := len_push m.pop m.top; omega)).mono ?_
  rintro e w2 ⟨rfl, hm2, hf2⟩
  have HM2 : Hid (MRt w2 F B c (m.pop).pop) := hm2
  have HF2 : Hid (Fr F w w2) := HF1.out.trans hf2
  clear hm2 hf2
  have HP := two12 w2 m.pop.top m.top HI.out.2 HI.out.1
  have HE : Hid (doN A R 12 a m = pairM 12 m) := rfl
  have HE2 : Hid ((pairN 12 m.pop.top m.top).2 = (pairM 12 m).2 ∧ ((pairM 12 m).2 = 0 → m.pop.pop.push (pairN 12 m.pop.top m.top).1 = (pairM 12 m).1)) := pair_split 12 m
  rw [pairRet] at HP
  generalize pairN 12 m.pop.top m.top = r at *
  obtain ⟨z, f5⟩ := r
  go_wp2_with fail
  refine HP.mono ?_
  rintro e w3 ⟨rfl, rfl⟩
  go_wp2_with fail
  refine (rlay_any w3 F B c m.pop.pop z HM2.out (by have := HL.out; have := len_pop m; have := len_pop m.pop; have := len_push m.pop m.top; omega)).mono ?_
  rintro e w4 ⟨rfl, hm4, hf4⟩
  have HX : Hid (MRt w4 F B c (m.pop.pop.push z) ∧ Fr F w w4) := ⟨hm4, HF2.out.trans hf4⟩
  clear hm4 hf4 HP
  go_wp2
  go_ret2
  exact ⟨m.pop.pop.push z, 0, by rw [HE.out, ← HE2.out.1]; rfl, HX.out.1, HX.out.2, rfl, rfl, fun h => by rw [HE.out] at h ⊢; exact HE2.out.2 h, fun _ => rfl⟩
set_option maxRecDepth 100000 in
set_option maxHeartbeats 1000000 in
theorem oth13 : OthOK 13 (.string ⟨#[100, 105, 118]⟩) := by
  intro w F B c L A R m a hm hg ht hl ho hx hy
  have HM : Hid (MRt w F B c m) := hm
  have HG : Hid (Giv w F c L A R) := hg
  have HI : Hid (In64 m.top ∧ In64 m.pop.top) := ⟨hx, hy⟩
  have HL : Hid (2 ≤ m.st.length ∧ m.st.length ≤ 100 ∧ m.ou.length ≤ 100) := ⟨by have := tk1 ht _ rfl; simp only [takesN, tkL, Int.toNat, List.getD_cons_zero, List.getD_cons_succ] at ht; omega, hl, ho⟩
  clear hm hg ht hl ho hx hy
  go_enter Try.func46, Try.ntmps46
  go_wp2_with fail
  refine (rtake_any w F B c (m) HM.out (by have := HL.out; have := len_pop m; have := len_pop m.pop; have := len_push m.pop m.top; omega) (by have := HL.out; have := len_pop m; have := len_pop m.pop; have := len_push m.pop m.top; omega)).mono ?_
  rintro e w1 ⟨rfl, hm1, hf1⟩
  have HM1 : Hid (MRt w1 F B c (m).pop) := hm1
  have HF1 : Hid (Fr F w w1) := hf1
  clear hm1 hf1
  go_wp2_with fail
  refine (rtake_any w1 F B c (m.pop) HM1.out (by have := HL.out; have := len_pop m; have := len_pop m.pop; have := len_push m.pop m.top; omega) (by have := HL.out; have := len_pop m; have := len_pop m.pop; have := len_push m.pop m.top; omega)).mono ?_
  rintro e w2 ⟨rfl, hm2, hf2⟩
  have HM2 : Hid (MRt w2 F B c (m.pop).pop) := hm2
  have HF2 : Hid (Fr F w w2) := HF1.out.trans hf2
  clear hm2 hf2
  have HP := two13 w2 m.pop.top m.top HI.out.2 HI.out.1
  have HE : Hid (doN A R 13 a m = pairM 13 m) := rfl
  have HE2 : Hid ((pairN 13 m.pop.top m.top).2 = (pairM 13 m).2 ∧ ((pairM 13 m).2 = 0 → m.pop.pop.push (pairN 13 m.pop.top m.top).1 = (pairM 13 m).1)) := pair_split 13 m
  rw [pairRet] at HP
  generalize pairN 13 m.pop.top m.top = r at *
  obtain ⟨z, f5⟩ := r
  go_wp2_with fail
  refine HP.mono ?_
  rintro e w3 ⟨rfl, rfl⟩
  go_wp2_with fail
  refine (rlay_any w3 F B c m.pop.pop z HM2.out (by have := HL.out; have := len_pop m; have := len_pop m.pop; have := len_push m.pop m.top; omega)).mono ?_
  rintro e w4 ⟨rfl, hm4, hf4⟩
  have HX : Hid (MRt w4 F B c (m.pop.pop.push z) ∧ Fr F w w4) := ⟨hm4, HF2.out.trans hf4⟩
  clear hm4 hf4 HP
  go_wp2
  go_ret2
  exact ⟨m.pop.pop.push z, 0, by rw [HE.out, ← HE2.out.1]; rfl, HX.out.1, HX.out.2, rfl, rfl, fun h => by rw [HE.out] at h ⊢; exact HE2.out.2 h, fun _ => rfl⟩
set_option maxRecDepth 100000 in
set_option maxHeartbeats 1000000 in
theorem oth14 : OthOK 14 (.string ⟨#[109, 111, 100]⟩) := by
  intro w F B c L A R m a hm hg ht hl ho hx hy
  have HM : Hid (MRt w F B c m) := hm
  have HG : Hid (Giv w F c L A R) := hg
  have HI : Hid (In64 m.top ∧ In64 m.pop.top) := ⟨hx, hy⟩
  have HL : Hid (2 ≤ m.st.length ∧ m.st.length ≤ 100 ∧ m.ou.length ≤ 100) := ⟨by have := tk1 ht _ rfl; simp only [takesN, tkL, Int.toNat, List.getD_cons_zero, List.getD_cons_succ] at ht; omega, hl, ho⟩
  clear hm hg ht hl ho hx hy
  go_enter Try.func46, Try.ntmps46
  go_wp2_with fail
  refine (rtake_any w F B c (m) HM.out (by have := HL.out; have := len_pop m; have := len_pop m.pop; have := len_push m.pop m.top; omega) (by have := HL.out; have := len_pop m; have := len_pop m.pop; have := len_push m.pop m.top; omega)).mono ?_
  rintro e w1 ⟨rfl, hm1, hf1⟩
  have HM1 : Hid (MRt w1 F B c (m).pop) := hm1
  have HF1 : Hid (Fr F w w1) := hf1
  clear hm1 hf1
  go_wp2_with fail
  refine (rtake_any w1 F B c (m.pop) HM1.out (by have := HL.out; have := len_pop m; have := len_pop m.pop; have := len_push m.pop m.top; omega) (by have := HL.out; have := len_pop m; have := len_pop m.pop; have := len_push m.pop m.top; omega)).mono ?_
  rintro e w2 ⟨rfl, hm2, hf2⟩
  have HM2 : Hid (MRt w2 F B c (m.pop).pop) := hm2
  have HF2 : Hid (Fr F w w2) := HF1.out.trans hf2
  clear hm2 hf2
  have HP := two14 w2 m.pop.top m.top HI.out.2 HI.out.1
  have HE : Hid (doN A R 14 a m = pairM 14 m) := rfl
  have HE2 : Hid ((pairN 14 m.pop.top m.top).2 = (pairM 14 m).2 ∧ ((pairM 14 m).2 = 0 → m.pop.pop.push (pairN 14 m.pop.top m.top).1 = (pairM 14 m).1)) := pair_split 14 m
  rw [pairRet] at HP
  generalize pairN 14 m.pop.top m.top = r at *
  obtain ⟨z, f5⟩ := r
  go_wp2_with fail
  refine HP.mono ?_
  rintro e w3 ⟨rfl, rfl⟩
  go_wp2_with fail
  refine (rlay_any w3 F B c m.pop.pop z HM2.out (by have := HL.out; have := len_pop m; have := len_pop m.pop; have := len_push m.pop m.top; omega)).mono ?_
  rintro e w4 ⟨rfl, hm4, hf4⟩
  have HX : Hid (MRt w4 F B c (m.pop.pop.push z) ∧ Fr F w w4) := ⟨hm4, HF2.out.trans hf4⟩
  clear hm4 hf4 HP
  go_wp2
  go_ret2
  exact ⟨m.pop.pop.push z, 0, by rw [HE.out, ← HE2.out.1]; rfl, HX.out.1, HX.out.2, rfl, rfl, fun h => by rw [HE.out] at h ⊢; exact HE2.out.2 h, fun _ => rfl⟩
set_option maxRecDepth 100000 in
set_option maxHeartbeats 1000000 in
theorem oth15 : OthOK 15 (.string ⟨#[97, 110, 100]⟩) := by
  intro w F B c L A R m a hm hg ht hl ho hx hy
  have HM : Hid (MRt w F B c m) := hm
  have HG : Hid (Giv w F c L A R) := hg
  have HI : Hid (In64 m.top ∧ In64 m.pop.top) := ⟨hx, hy⟩
  have HL : Hid (2 ≤ m.st.length ∧ m.st.length ≤ 100 ∧ m.ou.length ≤ 100) := ⟨by have := tk1 ht _ rfl; simp only [takesN, tkL, Int.toNat, List.getD_cons_zero, List.getD_cons_succ] at ht; omega, hl, ho⟩
  clear hm hg ht hl ho hx hy
  go_enter Try.func46, Try.ntmps46
  go_wp2_with fail
  refine (rtake_any w F B c (m) HM.out (by have := HL.out; have := len_pop m; have := len_pop m.pop; have := len_push m.pop m.top; omega) (by have := HL.out; have := len_pop m; have := len_pop m.pop; have := len_push m.pop m.top; omega)).mono ?_
  rintro e w1 ⟨rfl, hm1, hf1⟩
  have HM1 : Hid (MRt w1 F B c (m).pop) := hm1
  have HF1 : Hid (Fr F w w1) := hf1
  clear hm1 hf1
  go_wp2_with fail
  refine (rtake_any w1 F B c (m.pop) HM1.out (by have := HL.out; have := len_pop m; have := len_pop m.pop; have := len_push m.pop m.top; omega) (by have := HL.out; have := len_pop m; have := len_pop m.pop; have := len_push m.pop m.top; omega)).mono ?_
  rintro e w2 ⟨rfl, hm2, hf2⟩
  have HM2 : Hid (MRt w2 F B c (m.pop).pop) := hm2
  have HF2 : Hid (Fr F w w2) := HF1.out.trans hf2
  clear hm2 hf2
  have HP := two15 w2 m.pop.top m.top HI.out.2 HI.out.1
  have HE : Hid (doN A R 15 a m = pairM 15 m) := rfl
  have HE2 : Hid ((pairN 15 m.pop.top m.top).2 = (pairM 15 m).2 ∧ ((pairM 15 m).2 = 0 → m.pop.pop.push (pairN 15 m.pop.top m.top).1 = (pairM 15 m).1)) := pair_split 15 m
  rw [pairRet] at HP
  generalize pairN 15 m.pop.top m.top = r at *
  obtain ⟨z, f5⟩ := r
  go_wp2_with fail
  refine HP.mono ?_
  rintro e w3 ⟨rfl, rfl⟩
  go_wp2_with fail
  refine (rlay_any w3 F B c m.pop.pop z HM2.out (by have := HL.out; have := len_pop m; have := len_pop m.pop; have := len_push m.pop m.top; omega)).mono ?_
  rintro e w4 ⟨rfl, hm4, hf4⟩
  have HX : Hid (MRt w4 F B c (m.pop.pop.push z) ∧ Fr F w w4) := ⟨hm4, HF2.out.trans hf4⟩
  clear hm4 hf4 HP
  go_wp2
  go_ret2
  exact ⟨m.pop.pop.push z, 0, by rw [HE.out, ← HE2.out.1]; rfl, HX.out.1, HX.out.2, rfl, rfl, fun h => by rw [HE.out] at h ⊢; exact HE2.out.2 h, fun _ => rfl⟩
set_option maxRecDepth 100000 in
set_option maxHeartbeats 1000000 in
theorem oth16 : OthOK 16 (.string ⟨#[111, 114]⟩) := by
  intro w F B c L A R m a hm hg ht hl ho hx hy
  have HM : Hid (MRt w F B c m) := hm
  have HG : Hid (Giv w F c L A R) := hg
  have HI : Hid (In64 m.top ∧ In64 m.pop.top) := ⟨hx, hy⟩
  have HL : Hid (2 ≤ m.st.length ∧ m.st.length ≤ 100 ∧ m.ou.length ≤ 100) := ⟨by have := tk1 ht _ rfl; simp only [takesN, tkL, Int.toNat, List.getD_cons_zero, List.getD_cons_succ] at ht; omega, hl, ho⟩
  clear hm hg ht hl ho hx hy
  go_enter Try.func46, Try.ntmps46
  go_wp2_with fail
  refine (rtake_any w F B c (m) HM.out (by have := HL.out; have := len_pop m; have := len_pop m.pop; have := len_push m.pop m.top; omega) (by have := HL.out; have := len_pop m; have := len_pop m.pop; have := len_push m.pop m.top; omega)).mono ?_
  rintro e w1 ⟨rfl, hm1, hf1⟩
  have HM1 : Hid (MRt w1 F B c (m).pop) := hm1
  have HF1 : Hid (Fr F w w1) := hf1
  clear hm1 hf1
  go_wp2_with fail
  refine (rtake_any w1 F B c (m.pop) HM1.out (by have := HL.out; have := len_pop m; have := len_pop m.pop; have := len_push m.pop m.top; omega) (by have := HL.out; have := len_pop m; have := len_pop m.pop; have := len_push m.pop m.top; omega)).mono ?_
  rintro e w2 ⟨rfl, hm2, hf2⟩
  have HM2 : Hid (MRt w2 F B c (m.pop).pop) := hm2
  have HF2 : Hid (Fr F w w2) := HF1.out.trans hf2
  clear hm2 hf2
  have HP := two16 w2 m.pop.top m.top HI.out.2 HI.out.1
  have HE : Hid (doN A R 16 a m = pairM 16 m) := rfl
  have HE2 : Hid ((pairN 16 m.pop.top m.top).2 = (pairM 16 m).2 ∧ ((pairM 16 m).2 = 0 → m.pop.pop.push (pairN 16 m.pop.top m.top).1 = (pairM 16 m).1)) := pair_split 16 m
  rw [pairRet] at HP
  generalize pairN 16 m.pop.top m.top = r at *
  obtain ⟨z, f5⟩ := r
  go_wp2_with fail
  refine HP.mono ?_
  rintro e w3 ⟨rfl, rfl⟩
  go_wp2_with fail
  refine (rlay_any w3 F B c m.pop.pop z HM2.out (by have := HL.out; have := len_pop m; have := len_pop m.pop; have := len_push m.pop m.top; omega)).mono ?_
  rintro e w4 ⟨rfl, hm4, hf4⟩
  have HX : Hid (MRt w4 F B c (m.pop.pop.push z) ∧ Fr F w w4) := ⟨hm4, HF2.out.trans hf4⟩
  clear hm4 hf4 HP
  go_wp2
  go_ret2
  exact ⟨m.pop.pop.push z, 0, by rw [HE.out, ← HE2.out.1]; rfl, HX.out.1, HX.out.2, rfl, rfl, fun h => by rw [HE.out] at h ⊢; exact HE2.out.2 h, fun _ => rfl⟩
set_option maxRecDepth 100000 in
set_option maxHeartbeats 1000000 in
theorem oth17 : OthOK 17 (.string ⟨#[120, 111, 114]⟩) := by
  intro w F B c L A R m a hm hg ht hl ho hx hy
  have HM : Hid (MRt w F B c m) := hm
  have HG : Hid (Giv w F c L A R) := hg
  have HI : Hid (In64 m.top ∧ In64 m.pop.top) := ⟨hx, hy⟩
  have HL : Hid (2 ≤ m.st.length ∧ m.st.length ≤ 100 ∧ m.ou.length ≤ 100) := ⟨by have := tk1 ht _ rfl; simp only [takesN, tkL, Int.toNat, List.getD_cons_zero, List.getD_cons_succ] at ht; omega, hl, ho⟩
  clear hm hg ht hl ho hx hy
  go_enter Try.func46, Try.ntmps46
  go_wp2_with fail
  refine (rtake_any w F B c (m) HM.out (by have := HL.out; have := len_pop m; have := len_pop m.pop; have := len_push m.pop m.top; omega) (by have := HL.out; have := len_pop m; have := len_pop m.pop; have := len_push m.pop m.top; omega)).mono ?_
  rintro e w1 ⟨rfl, hm1, hf1⟩
  have HM1 : Hid (MRt w1 F B c (m).pop) := hm1
  have HF1 : Hid (Fr F w w1) := hf1
  clear hm1 hf1
  go_wp2_with fail
  refine (rtake_any w1 F B c (m.pop) HM1.out (by have := HL.out; have := len_pop m; have := len_pop m.pop; have := len_push m.pop m.top; omega) (by have := HL.out; have := len_pop m; have := len_pop m.pop; have := len_push m.pop m.top; omega)).mono ?_
  rintro e w2 ⟨rfl, hm2, hf2⟩
  have HM2 : Hid (MRt w2 F B c (m.pop).pop) := hm2
  have HF2 : Hid (Fr F w w2) := HF1.out.trans hf2
  clear hm2 hf2
  have HP := two17 w2 m.pop.top m.top HI.out.2 HI.out.1
  have HE : Hid (doN A R 17 a m = pairM 17 m) := rfl
  have HE2 : Hid ((pairN 17 m.pop.top m.top).2 = (pairM 17 m).2 ∧ ((pairM 17 m).2 = 0 → m.pop.pop.push (pairN 17 m.pop.top m.top).1 = (pairM 17 m).1)) := pair_split 17 m
  rw [pairRet] at HP
  generalize pairN 17 m.pop.top m.top = r at *
  obtain ⟨z, f5⟩ := r
  go_wp2_with fail
  refine HP.mono ?_
  rintro e w3 ⟨rfl, rfl⟩
  go_wp2_with fail
  refine (rlay_any w3 F B c m.pop.pop z HM2.out (by have := HL.out; have := len_pop m; have := len_pop m.pop; have := len_push m.pop m.top; omega)).mono ?_
  rintro e w4 ⟨rfl, hm4, hf4⟩
  have HX : Hid (MRt w4 F B c (m.pop.pop.push z) ∧ Fr F w w4) := ⟨hm4, HF2.out.trans hf4⟩
  clear hm4 hf4 HP
  go_wp2
  go_ret2
  exact ⟨m.pop.pop.push z, 0, by rw [HE.out, ← HE2.out.1]; rfl, HX.out.1, HX.out.2, rfl, rfl, fun h => by rw [HE.out] at h ⊢; exact HE2.out.2 h, fun _ => rfl⟩
set_option maxRecDepth 100000 in
set_option maxHeartbeats 1000000 in
theorem oth18 : OthOK 18 (.string ⟨#[115, 104, 108]⟩) := by
  intro w F B c L A R m a hm hg ht hl ho hx hy
  have HM : Hid (MRt w F B c m) := hm
  have HG : Hid (Giv w F c L A R) := hg
  have HI : Hid (In64 m.top ∧ In64 m.pop.top) := ⟨hx, hy⟩
  have HL : Hid (2 ≤ m.st.length ∧ m.st.length ≤ 100 ∧ m.ou.length ≤ 100) := ⟨by have := tk1 ht _ rfl; simp only [takesN, tkL, Int.toNat, List.getD_cons_zero, List.getD_cons_succ] at ht; omega, hl, ho⟩
  clear hm hg ht hl ho hx hy
  go_enter Try.func46, Try.ntmps46
  go_wp2_with fail
  refine (rtake_any w F B c (m) HM.out (by have := HL.out; have := len_pop m; have := len_pop m.pop; have := len_push m.pop m.top; omega) (by have := HL.out; have := len_pop m; have := len_pop m.pop; have := len_push m.pop m.top; omega)).mono ?_
  rintro e w1 ⟨rfl, hm1, hf1⟩
  have HM1 : Hid (MRt w1 F B c (m).pop) := hm1
  have HF1 : Hid (Fr F w w1) := hf1
  clear hm1 hf1
  go_wp2_with fail
  refine (rtake_any w1 F B c (m.pop) HM1.out (by have := HL.out; have := len_pop m; have := len_pop m.pop; have := len_push m.pop m.top; omega) (by have := HL.out; have := len_pop m; have := len_pop m.pop; have := len_push m.pop m.top; omega)).mono ?_
  rintro e w2 ⟨rfl, hm2, hf2⟩
  have HM2 : Hid (MRt w2 F B c (m.pop).pop) := hm2
  have HF2 : Hid (Fr F w w2) := HF1.out.trans hf2
  clear hm2 hf2
  have HP := two18 w2 m.pop.top m.top HI.out.2 HI.out.1
  have HE : Hid (doN A R 18 a m = pairM 18 m) := rfl
  have HE2 : Hid ((pairN 18 m.pop.top m.top).2 = (pairM 18 m).2 ∧ ((pairM 18 m).2 = 0 → m.pop.pop.push (pairN 18 m.pop.top m.top).1 = (pairM 18 m).1)) := pair_split 18 m
  rw [pairRet] at HP
  generalize pairN 18 m.pop.top m.top = r at *
  obtain ⟨z, f5⟩ := r
  go_wp2_with fail
  refine HP.mono ?_
  rintro e w3 ⟨rfl, rfl⟩
  go_wp2_with fail
  refine (rlay_any w3 F B c m.pop.pop z HM2.out (by have := HL.out; have := len_pop m; have := len_pop m.pop; have := len_push m.pop m.top; omega)).mono ?_
  rintro e w4 ⟨rfl, hm4, hf4⟩
  have HX : Hid (MRt w4 F B c (m.pop.pop.push z) ∧ Fr F w w4) := ⟨hm4, HF2.out.trans hf4⟩
  clear hm4 hf4 HP
  go_wp2
  go_ret2
  exact ⟨m.pop.pop.push z, 0, by rw [HE.out, ← HE2.out.1]; rfl, HX.out.1, HX.out.2, rfl, rfl, fun h => by rw [HE.out] at h ⊢; exact HE2.out.2 h, fun _ => rfl⟩
set_option maxRecDepth 100000 in
set_option maxHeartbeats 1000000 in
theorem oth19 : OthOK 19 (.string ⟨#[115, 104, 114]⟩) := by
  intro w F B c L A R m a hm hg ht hl ho hx hy
  have HM : Hid (MRt w F B c m) := hm
  have HG : Hid (Giv w F c L A R) := hg
  have HI : Hid (In64 m.top ∧ In64 m.pop.top) := ⟨hx, hy⟩
  have HL : Hid (2 ≤ m.st.length ∧ m.st.length ≤ 100 ∧ m.ou.length ≤ 100) := ⟨by have := tk1 ht _ rfl; simp only [takesN, tkL, Int.toNat, List.getD_cons_zero, List.getD_cons_succ] at ht; omega, hl, ho⟩
  clear hm hg ht hl ho hx hy
  go_enter Try.func46, Try.ntmps46
  go_wp2_with fail
  refine (rtake_any w F B c (m) HM.out (by have := HL.out; have := len_pop m; have := len_pop m.pop; have := len_push m.pop m.top; omega) (by have := HL.out; have := len_pop m; have := len_pop m.pop; have := len_push m.pop m.top; omega)).mono ?_
  rintro e w1 ⟨rfl, hm1, hf1⟩
  have HM1 : Hid (MRt w1 F B c (m).pop) := hm1
  have HF1 : Hid (Fr F w w1) := hf1
  clear hm1 hf1
  go_wp2_with fail
  refine (rtake_any w1 F B c (m.pop) HM1.out (by have := HL.out; have := len_pop m; have := len_pop m.pop; have := len_push m.pop m.top; omega) (by have := HL.out; have := len_pop m; have := len_pop m.pop; have := len_push m.pop m.top; omega)).mono ?_
  rintro e w2 ⟨rfl, hm2, hf2⟩
  have HM2 : Hid (MRt w2 F B c (m.pop).pop) := hm2
  have HF2 : Hid (Fr F w w2) := HF1.out.trans hf2
  clear hm2 hf2
  have HP := two19 w2 m.pop.top m.top HI.out.2 HI.out.1
  have HE : Hid (doN A R 19 a m = pairM 19 m) := rfl
  have HE2 : Hid ((pairN 19 m.pop.top m.top).2 = (pairM 19 m).2 ∧ ((pairM 19 m).2 = 0 → m.pop.pop.push (pairN 19 m.pop.top m.top).1 = (pairM 19 m).1)) := pair_split 19 m
  rw [pairRet] at HP
  generalize pairN 19 m.pop.top m.top = r at *
  obtain ⟨z, f5⟩ := r
  go_wp2_with fail
  refine HP.mono ?_
  rintro e w3 ⟨rfl, rfl⟩
  go_wp2_with fail
  refine (rlay_any w3 F B c m.pop.pop z HM2.out (by have := HL.out; have := len_pop m; have := len_pop m.pop; have := len_push m.pop m.top; omega)).mono ?_
  rintro e w4 ⟨rfl, hm4, hf4⟩
  have HX : Hid (MRt w4 F B c (m.pop.pop.push z) ∧ Fr F w w4) := ⟨hm4, HF2.out.trans hf4⟩
  clear hm4 hf4 HP
  go_wp2
  go_ret2
  exact ⟨m.pop.pop.push z, 0, by rw [HE.out, ← HE2.out.1]; rfl, HX.out.1, HX.out.2, rfl, rfl, fun h => by rw [HE.out] at h ⊢; exact HE2.out.2 h, fun _ => rfl⟩
set_option maxRecDepth 100000 in
set_option maxHeartbeats 1000000 in
theorem oth22 : OthOK 22 (.string ⟨#[101, 113]⟩) := by
  intro w F B c L A R m a hm hg ht hl ho hx hy
  have HM : Hid (MRt w F B c m) := hm
  have HG : Hid (Giv w F c L A R) := hg
  have HI : Hid (In64 m.top ∧ In64 m.pop.top) := ⟨hx, hy⟩
  have HL : Hid (2 ≤ m.st.length ∧ m.st.length ≤ 100 ∧ m.ou.length ≤ 100) := ⟨by have := tk1 ht _ rfl; simp only [takesN, tkL, Int.toNat, List.getD_cons_zero, List.getD_cons_succ] at ht; omega, hl, ho⟩
  clear hm hg ht hl ho hx hy
  go_enter Try.func46, Try.ntmps46
  go_wp2_with fail
  refine (rtake_any w F B c (m) HM.out (by have := HL.out; have := len_pop m; have := len_pop m.pop; have := len_push m.pop m.top; omega) (by have := HL.out; have := len_pop m; have := len_pop m.pop; have := len_push m.pop m.top; omega)).mono ?_
  rintro e w1 ⟨rfl, hm1, hf1⟩
  have HM1 : Hid (MRt w1 F B c (m).pop) := hm1
  have HF1 : Hid (Fr F w w1) := hf1
  clear hm1 hf1
  go_wp2_with fail
  refine (rtake_any w1 F B c (m.pop) HM1.out (by have := HL.out; have := len_pop m; have := len_pop m.pop; have := len_push m.pop m.top; omega) (by have := HL.out; have := len_pop m; have := len_pop m.pop; have := len_push m.pop m.top; omega)).mono ?_
  rintro e w2 ⟨rfl, hm2, hf2⟩
  have HM2 : Hid (MRt w2 F B c (m.pop).pop) := hm2
  have HF2 : Hid (Fr F w w2) := HF1.out.trans hf2
  clear hm2 hf2
  have HP := two22 w2 m.pop.top m.top HI.out.2 HI.out.1
  have HE : Hid (doN A R 22 a m = pairM 22 m) := rfl
  have HE2 : Hid ((pairN 22 m.pop.top m.top).2 = (pairM 22 m).2 ∧ ((pairM 22 m).2 = 0 → m.pop.pop.push (pairN 22 m.pop.top m.top).1 = (pairM 22 m).1)) := pair_split 22 m
  rw [pairRet] at HP
  generalize pairN 22 m.pop.top m.top = r at *
  obtain ⟨z, f5⟩ := r
  go_wp2_with fail
  refine HP.mono ?_
  rintro e w3 ⟨rfl, rfl⟩
  go_wp2_with fail
  refine (rlay_any w3 F B c m.pop.pop z HM2.out (by have := HL.out; have := len_pop m; have := len_pop m.pop; have := len_push m.pop m.top; omega)).mono ?_
  rintro e w4 ⟨rfl, hm4, hf4⟩
  have HX : Hid (MRt w4 F B c (m.pop.pop.push z) ∧ Fr F w w4) := ⟨hm4, HF2.out.trans hf4⟩
  clear hm4 hf4 HP
  go_wp2
  go_ret2
  exact ⟨m.pop.pop.push z, 0, by rw [HE.out, ← HE2.out.1]; rfl, HX.out.1, HX.out.2, rfl, rfl, fun h => by rw [HE.out] at h ⊢; exact HE2.out.2 h, fun _ => rfl⟩
set_option maxRecDepth 100000 in
set_option maxHeartbeats 1000000 in
theorem oth23 : OthOK 23 (.string ⟨#[110, 101]⟩) := by
  intro w F B c L A R m a hm hg ht hl ho hx hy
  have HM : Hid (MRt w F B c m) := hm
  have HG : Hid (Giv w F c L A R) := hg
  have HI : Hid (In64 m.top ∧ In64 m.pop.top) := ⟨hx, hy⟩
  have HL : Hid (2 ≤ m.st.length ∧ m.st.length ≤ 100 ∧ m.ou.length ≤ 100) := ⟨by have := tk1 ht _ rfl; simp only [takesN, tkL, Int.toNat, List.getD_cons_zero, List.getD_cons_succ] at ht; omega, hl, ho⟩
  clear hm hg ht hl ho hx hy
  go_enter Try.func46, Try.ntmps46
  go_wp2_with fail
  refine (rtake_any w F B c (m) HM.out (by have := HL.out; have := len_pop m; have := len_pop m.pop; have := len_push m.pop m.top; omega) (by have := HL.out; have := len_pop m; have := len_pop m.pop; have := len_push m.pop m.top; omega)).mono ?_
  rintro e w1 ⟨rfl, hm1, hf1⟩
  have HM1 : Hid (MRt w1 F B c (m).pop) := hm1
  have HF1 : Hid (Fr F w w1) := hf1
  clear hm1 hf1
  go_wp2_with fail
  refine (rtake_any w1 F B c (m.pop) HM1.out (by have := HL.out; have := len_pop m; have := len_pop m.pop; have := len_push m.pop m.top; omega) (by have := HL.out; have := len_pop m; have := len_pop m.pop; have := len_push m.pop m.top; omega)).mono ?_
  rintro e w2 ⟨rfl, hm2, hf2⟩
  have HM2 : Hid (MRt w2 F B c (m.pop).pop) := hm2
  have HF2 : Hid (Fr F w w2) := HF1.out.trans hf2
  clear hm2 hf2
  have HP := two23 w2 m.pop.top m.top HI.out.2 HI.out.1
  have HE : Hid (doN A R 23 a m = pairM 23 m) := rfl
  have HE2 : Hid ((pairN 23 m.pop.top m.top).2 = (pairM 23 m).2 ∧ ((pairM 23 m).2 = 0 → m.pop.pop.push (pairN 23 m.pop.top m.top).1 = (pairM 23 m).1)) := pair_split 23 m
  rw [pairRet] at HP
  generalize pairN 23 m.pop.top m.top = r at *
  obtain ⟨z, f5⟩ := r
  go_wp2_with fail
  refine HP.mono ?_
  rintro e w3 ⟨rfl, rfl⟩
  go_wp2_with fail
  refine (rlay_any w3 F B c m.pop.pop z HM2.out (by have := HL.out; have := len_pop m; have := len_pop m.pop; have := len_push m.pop m.top; omega)).mono ?_
  rintro e w4 ⟨rfl, hm4, hf4⟩
  have HX : Hid (MRt w4 F B c (m.pop.pop.push z) ∧ Fr F w w4) := ⟨hm4, HF2.out.trans hf4⟩
  clear hm4 hf4 HP
  go_wp2
  go_ret2
  exact ⟨m.pop.pop.push z, 0, by rw [HE.out, ← HE2.out.1]; rfl, HX.out.1, HX.out.2, rfl, rfl, fun h => by rw [HE.out] at h ⊢; exact HE2.out.2 h, fun _ => rfl⟩
set_option maxRecDepth 100000 in
set_option maxHeartbeats 1000000 in
theorem oth24 : OthOK 24 (.string ⟨#[108, 116]⟩) := by
  intro w F B c L A R m a hm hg ht hl ho hx hy
  have HM : Hid (MRt w F B c m) := hm
  have HG : Hid (Giv w F c L A R) := hg
  have HI : Hid (In64 m.top ∧ In64 m.pop.top) := ⟨hx, hy⟩
  have HL : Hid (2 ≤ m.st.length ∧ m.st.length ≤ 100 ∧ m.ou.length ≤ 100) := ⟨by have := tk1 ht _ rfl; simp only [takesN, tkL, Int.toNat, List.getD_cons_zero, List.getD_cons_succ] at ht; omega, hl, ho⟩
  clear hm hg ht hl ho hx hy
  go_enter Try.func46, Try.ntmps46
  go_wp2_with fail
  refine (rtake_any w F B c (m) HM.out (by have := HL.out; have := len_pop m; have := len_pop m.pop; have := len_push m.pop m.top; omega) (by have := HL.out; have := len_pop m; have := len_pop m.pop; have := len_push m.pop m.top; omega)).mono ?_
  rintro e w1 ⟨rfl, hm1, hf1⟩
  have HM1 : Hid (MRt w1 F B c (m).pop) := hm1
  have HF1 : Hid (Fr F w w1) := hf1
  clear hm1 hf1
  go_wp2_with fail
  refine (rtake_any w1 F B c (m.pop) HM1.out (by have := HL.out; have := len_pop m; have := len_pop m.pop; have := len_push m.pop m.top; omega) (by have := HL.out; have := len_pop m; have := len_pop m.pop; have := len_push m.pop m.top; omega)).mono ?_
  rintro e w2 ⟨rfl, hm2, hf2⟩
  have HM2 : Hid (MRt w2 F B c (m.pop).pop) := hm2
  have HF2 : Hid (Fr F w w2) := HF1.out.trans hf2
  clear hm2 hf2
  have HP := two24 w2 m.pop.top m.top HI.out.2 HI.out.1
  have HE : Hid (doN A R 24 a m = pairM 24 m) := rfl
  have HE2 : Hid ((pairN 24 m.pop.top m.top).2 = (pairM 24 m).2 ∧ ((pairM 24 m).2 = 0 → m.pop.pop.push (pairN 24 m.pop.top m.top).1 = (pairM 24 m).1)) := pair_split 24 m
  rw [pairRet] at HP
  generalize pairN 24 m.pop.top m.top = r at *
  obtain ⟨z, f5⟩ := r
  go_wp2_with fail
  refine HP.mono ?_
  rintro e w3 ⟨rfl, rfl⟩
  go_wp2_with fail
  refine (rlay_any w3 F B c m.pop.pop z HM2.out (by have := HL.out; have := len_pop m; have := len_pop m.pop; have := len_push m.pop m.top; omega)).mono ?_
  rintro e w4 ⟨rfl, hm4, hf4⟩
  have HX : Hid (MRt w4 F B c (m.pop.pop.push z) ∧ Fr F w w4) := ⟨hm4, HF2.out.trans hf4⟩
  clear hm4 hf4 HP
  go_wp2
  go_ret2
  exact ⟨m.pop.pop.push z, 0, by rw [HE.out, ← HE2.out.1]; rfl, HX.out.1, HX.out.2, rfl, rfl, fun h => by rw [HE.out] at h ⊢; exact HE2.out.2 h, fun _ => rfl⟩
set_option maxRecDepth 100000 in
set_option maxHeartbeats 1000000 in
theorem oth25 : OthOK 25 (.string ⟨#[108, 101]⟩) := by
  intro w F B c L A R m a hm hg ht hl ho hx hy
  have HM : Hid (MRt w F B c m) := hm
  have HG : Hid (Giv w F c L A R) := hg
  have HI : Hid (In64 m.top ∧ In64 m.pop.top) := ⟨hx, hy⟩
  have HL : Hid (2 ≤ m.st.length ∧ m.st.length ≤ 100 ∧ m.ou.length ≤ 100) := ⟨by have := tk1 ht _ rfl; simp only [takesN, tkL, Int.toNat, List.getD_cons_zero, List.getD_cons_succ] at ht; omega, hl, ho⟩
  clear hm hg ht hl ho hx hy
  go_enter Try.func46, Try.ntmps46
  go_wp2_with fail
  refine (rtake_any w F B c (m) HM.out (by have := HL.out; have := len_pop m; have := len_pop m.pop; have := len_push m.pop m.top; omega) (by have := HL.out; have := len_pop m; have := len_pop m.pop; have := len_push m.pop m.top; omega)).mono ?_
  rintro e w1 ⟨rfl, hm1, hf1⟩
  have HM1 : Hid (MRt w1 F B c (m).pop) := hm1
  have HF1 : Hid (Fr F w w1) := hf1
  clear hm1 hf1
  go_wp2_with fail
  refine (rtake_any w1 F B c (m.pop) HM1.out (by have := HL.out; have := len_pop m; have := len_pop m.pop; have := len_push m.pop m.top; omega) (by have := HL.out; have := len_pop m; have := len_pop m.pop; have := len_push m.pop m.top; omega)).mono ?_
  rintro e w2 ⟨rfl, hm2, hf2⟩
  have HM2 : Hid (MRt w2 F B c (m.pop).pop) := hm2
  have HF2 : Hid (Fr F w w2) := HF1.out.trans hf2
  clear hm2 hf2
  have HP := two25 w2 m.pop.top m.top HI.out.2 HI.out.1
  have HE : Hid (doN A R 25 a m = pairM 25 m) := rfl
  have HE2 : Hid ((pairN 25 m.pop.top m.top).2 = (pairM 25 m).2 ∧ ((pairM 25 m).2 = 0 → m.pop.pop.push (pairN 25 m.pop.top m.top).1 = (pairM 25 m).1)) := pair_split 25 m
  rw [pairRet] at HP
  generalize pairN 25 m.pop.top m.top = r at *
  obtain ⟨z, f5⟩ := r
  go_wp2_with fail
  refine HP.mono ?_
  rintro e w3 ⟨rfl, rfl⟩
  go_wp2_with fail
  refine (rlay_any w3 F B c m.pop.pop z HM2.out (by have := HL.out; have := len_pop m; have := len_pop m.pop; have := len_push m.pop m.top; omega)).mono ?_
  rintro e w4 ⟨rfl, hm4, hf4⟩
  have HX : Hid (MRt w4 F B c (m.pop.pop.push z) ∧ Fr F w w4) := ⟨hm4, HF2.out.trans hf4⟩
  clear hm4 hf4 HP
  go_wp2
  go_ret2
  exact ⟨m.pop.pop.push z, 0, by rw [HE.out, ← HE2.out.1]; rfl, HX.out.1, HX.out.2, rfl, rfl, fun h => by rw [HE.out] at h ⊢; exact HE2.out.2 h, fun _ => rfl⟩
set_option maxRecDepth 100000 in
set_option maxHeartbeats 1000000 in
theorem oth26 : OthOK 26 (.string ⟨#[103, 116]⟩) := by
  intro w F B c L A R m a hm hg ht hl ho hx hy
  have HM : Hid (MRt w F B c m) := hm
  have HG : Hid (Giv w F c L A R) := hg
  have HI : Hid (In64 m.top ∧ In64 m.pop.top) := ⟨hx, hy⟩
  have HL : Hid (2 ≤ m.st.length ∧ m.st.length ≤ 100 ∧ m.ou.length ≤ 100) := ⟨by have := tk1 ht _ rfl; simp only [takesN, tkL, Int.toNat, List.getD_cons_zero, List.getD_cons_succ] at ht; omega, hl, ho⟩
  clear hm hg ht hl ho hx hy
  go_enter Try.func46, Try.ntmps46
  go_wp2_with fail
  refine (rtake_any w F B c (m) HM.out (by have := HL.out; have := len_pop m; have := len_pop m.pop; have := len_push m.pop m.top; omega) (by have := HL.out; have := len_pop m; have := len_pop m.pop; have := len_push m.pop m.top; omega)).mono ?_
  rintro e w1 ⟨rfl, hm1, hf1⟩
  have HM1 : Hid (MRt w1 F B c (m).pop) := hm1
  have HF1 : Hid (Fr F w w1) := hf1
  clear hm1 hf1
  go_wp2_with fail
  refine (rtake_any w1 F B c (m.pop) HM1.out (by have := HL.out; have := len_pop m; have := len_pop m.pop; have := len_push m.pop m.top; omega) (by have := HL.out; have := len_pop m; have := len_pop m.pop; have := len_push m.pop m.top; omega)).mono ?_
  rintro e w2 ⟨rfl, hm2, hf2⟩
  have HM2 : Hid (MRt w2 F B c (m.pop).pop) := hm2
  have HF2 : Hid (Fr F w w2) := HF1.out.trans hf2
  clear hm2 hf2
  have HP := two26 w2 m.pop.top m.top HI.out.2 HI.out.1
  have HE : Hid (doN A R 26 a m = pairM 26 m) := rfl
  have HE2 : Hid ((pairN 26 m.pop.top m.top).2 = (pairM 26 m).2 ∧ ((pairM 26 m).2 = 0 → m.pop.pop.push (pairN 26 m.pop.top m.top).1 = (pairM 26 m).1)) := pair_split 26 m
  rw [pairRet] at HP
  generalize pairN 26 m.pop.top m.top = r at *
  obtain ⟨z, f5⟩ := r
  go_wp2_with fail
  refine HP.mono ?_
  rintro e w3 ⟨rfl, rfl⟩
  go_wp2_with fail
  refine (rlay_any w3 F B c m.pop.pop z HM2.out (by have := HL.out; have := len_pop m; have := len_pop m.pop; have := len_push m.pop m.top; omega)).mono ?_
  rintro e w4 ⟨rfl, hm4, hf4⟩
  have HX : Hid (MRt w4 F B c (m.pop.pop.push z) ∧ Fr F w w4) := ⟨hm4, HF2.out.trans hf4⟩
  clear hm4 hf4 HP
  go_wp2
  go_ret2
  exact ⟨m.pop.pop.push z, 0, by rw [HE.out, ← HE2.out.1]; rfl, HX.out.1, HX.out.2, rfl, rfl, fun h => by rw [HE.out] at h ⊢; exact HE2.out.2 h, fun _ => rfl⟩
set_option maxRecDepth 100000 in
set_option maxHeartbeats 1000000 in
theorem oth27 : OthOK 27 (.string ⟨#[103, 101]⟩) := by
  intro w F B c L A R m a hm hg ht hl ho hx hy
  have HM : Hid (MRt w F B c m) := hm
  have HG : Hid (Giv w F c L A R) := hg
  have HI : Hid (In64 m.top ∧ In64 m.pop.top) := ⟨hx, hy⟩
  have HL : Hid (2 ≤ m.st.length ∧ m.st.length ≤ 100 ∧ m.ou.length ≤ 100) := ⟨by have := tk1 ht _ rfl; simp only [takesN, tkL, Int.toNat, List.getD_cons_zero, List.getD_cons_succ] at ht; omega, hl, ho⟩
  clear hm hg ht hl ho hx hy
  go_enter Try.func46, Try.ntmps46
  go_wp2_with fail
  refine (rtake_any w F B c (m) HM.out (by have := HL.out; have := len_pop m; have := len_pop m.pop; have := len_push m.pop m.top; omega) (by have := HL.out; have := len_pop m; have := len_pop m.pop; have := len_push m.pop m.top; omega)).mono ?_
  rintro e w1 ⟨rfl, hm1, hf1⟩
  have HM1 : Hid (MRt w1 F B c (m).pop) := hm1
  have HF1 : Hid (Fr F w w1) := hf1
  clear hm1 hf1
  go_wp2_with fail
  refine (rtake_any w1 F B c (m.pop) HM1.out (by have := HL.out; have := len_pop m; have := len_pop m.pop; have := len_push m.pop m.top; omega) (by have := HL.out; have := len_pop m; have := len_pop m.pop; have := len_push m.pop m.top; omega)).mono ?_
  rintro e w2 ⟨rfl, hm2, hf2⟩
  have HM2 : Hid (MRt w2 F B c (m.pop).pop) := hm2
  have HF2 : Hid (Fr F w w2) := HF1.out.trans hf2
  clear hm2 hf2
  have HP := two27 w2 m.pop.top m.top HI.out.2 HI.out.1
  have HE : Hid (doN A R 27 a m = pairM 27 m) := rfl
  have HE2 : Hid ((pairN 27 m.pop.top m.top).2 = (pairM 27 m).2 ∧ ((pairM 27 m).2 = 0 → m.pop.pop.push (pairN 27 m.pop.top m.top).1 = (pairM 27 m).1)) := pair_split 27 m
  rw [pairRet] at HP
  generalize pairN 27 m.pop.top m.top = r at *
  obtain ⟨z, f5⟩ := r
  go_wp2_with fail
  refine HP.mono ?_
  rintro e w3 ⟨rfl, rfl⟩
  go_wp2_with fail
  refine (rlay_any w3 F B c m.pop.pop z HM2.out (by have := HL.out; have := len_pop m; have := len_pop m.pop; have := len_push m.pop m.top; omega)).mono ?_
  rintro e w4 ⟨rfl, hm4, hf4⟩
  have HX : Hid (MRt w4 F B c (m.pop.pop.push z) ∧ Fr F w w4) := ⟨hm4, HF2.out.trans hf4⟩
  clear hm4 hf4 HP
  go_wp2
  go_ret2
  exact ⟨m.pop.pop.push z, 0, by rw [HE.out, ← HE2.out.1]; rfl, HX.out.1, HX.out.2, rfl, rfl, fun h => by rw [HE.out] at h ⊢; exact HE2.out.2 h, fun _ => rfl⟩
set_option maxRecDepth 100000 in
set_option maxHeartbeats 1000000 in
theorem oth28 : OthOK 28 (.string ⟨#[109, 105, 110]⟩) := by
  intro w F B c L A R m a hm hg ht hl ho hx hy
  have HM : Hid (MRt w F B c m) := hm
  have HG : Hid (Giv w F c L A R) := hg
  have HI : Hid (In64 m.top ∧ In64 m.pop.top) := ⟨hx, hy⟩
  have HL : Hid (2 ≤ m.st.length ∧ m.st.length ≤ 100 ∧ m.ou.length ≤ 100) := ⟨by have := tk1 ht _ rfl; simp only [takesN, tkL, Int.toNat, List.getD_cons_zero, List.getD_cons_succ] at ht; omega, hl, ho⟩
  clear hm hg ht hl ho hx hy
  go_enter Try.func46, Try.ntmps46
  go_wp2_with fail
  refine (rtake_any w F B c (m) HM.out (by have := HL.out; have := len_pop m; have := len_pop m.pop; have := len_push m.pop m.top; omega) (by have := HL.out; have := len_pop m; have := len_pop m.pop; have := len_push m.pop m.top; omega)).mono ?_
  rintro e w1 ⟨rfl, hm1, hf1⟩
  have HM1 : Hid (MRt w1 F B c (m).pop) := hm1
  have HF1 : Hid (Fr F w w1) := hf1
  clear hm1 hf1
  go_wp2_with fail
  refine (rtake_any w1 F B c (m.pop) HM1.out (by have := HL.out; have := len_pop m; have := len_pop m.pop; have := len_push m.pop m.top; omega) (by have := HL.out; have := len_pop m; have := len_pop m.pop; have := len_push m.pop m.top; omega)).mono ?_
  rintro e w2 ⟨rfl, hm2, hf2⟩
  have HM2 : Hid (MRt w2 F B c (m.pop).pop) := hm2
  have HF2 : Hid (Fr F w w2) := HF1.out.trans hf2
  clear hm2 hf2
  have HP := two28 w2 m.pop.top m.top HI.out.2 HI.out.1
  have HE : Hid (doN A R 28 a m = pairM 28 m) := rfl
  have HE2 : Hid ((pairN 28 m.pop.top m.top).2 = (pairM 28 m).2 ∧ ((pairM 28 m).2 = 0 → m.pop.pop.push (pairN 28 m.pop.top m.top).1 = (pairM 28 m).1)) := pair_split 28 m
  rw [pairRet] at HP
  generalize pairN 28 m.pop.top m.top = r at *
  obtain ⟨z, f5⟩ := r
  go_wp2_with fail
  refine HP.mono ?_
  rintro e w3 ⟨rfl, rfl⟩
  go_wp2_with fail
  refine (rlay_any w3 F B c m.pop.pop z HM2.out (by have := HL.out; have := len_pop m; have := len_pop m.pop; have := len_push m.pop m.top; omega)).mono ?_
  rintro e w4 ⟨rfl, hm4, hf4⟩
  have HX : Hid (MRt w4 F B c (m.pop.pop.push z) ∧ Fr F w w4) := ⟨hm4, HF2.out.trans hf4⟩
  clear hm4 hf4 HP
  go_wp2
  go_ret2
  exact ⟨m.pop.pop.push z, 0, by rw [HE.out, ← HE2.out.1]; rfl, HX.out.1, HX.out.2, rfl, rfl, fun h => by rw [HE.out] at h ⊢; exact HE2.out.2 h, fun _ => rfl⟩
set_option maxRecDepth 100000 in
set_option maxHeartbeats 1000000 in
theorem oth29 : OthOK 29 (.string ⟨#[109, 97, 120]⟩) := by
  intro w F B c L A R m a hm hg ht hl ho hx hy
  have HM : Hid (MRt w F B c m) := hm
  have HG : Hid (Giv w F c L A R) := hg
  have HI : Hid (In64 m.top ∧ In64 m.pop.top) := ⟨hx, hy⟩
  have HL : Hid (2 ≤ m.st.length ∧ m.st.length ≤ 100 ∧ m.ou.length ≤ 100) := ⟨by have := tk1 ht _ rfl; simp only [takesN, tkL, Int.toNat, List.getD_cons_zero, List.getD_cons_succ] at ht; omega, hl, ho⟩
  clear hm hg ht hl ho hx hy
  go_enter Try.func46, Try.ntmps46
  go_wp2_with fail
  refine (rtake_any w F B c (m) HM.out (by have := HL.out; have := len_pop m; have := len_pop m.pop; have := len_push m.pop m.top; omega) (by have := HL.out; have := len_pop m; have := len_pop m.pop; have := len_push m.pop m.top; omega)).mono ?_
  rintro e w1 ⟨rfl, hm1, hf1⟩
  have HM1 : Hid (MRt w1 F B c (m).pop) := hm1
  have HF1 : Hid (Fr F w w1) := hf1
  clear hm1 hf1
  go_wp2_with fail
  refine (rtake_any w1 F B c (m.pop) HM1.out (by have := HL.out; have := len_pop m; have := len_pop m.pop; have := len_push m.pop m.top; omega) (by have := HL.out; have := len_pop m; have := len_pop m.pop; have := len_push m.pop m.top; omega)).mono ?_
  rintro e w2 ⟨rfl, hm2, hf2⟩
  have HM2 : Hid (MRt w2 F B c (m.pop).pop) := hm2
  have HF2 : Hid (Fr F w w2) := HF1.out.trans hf2
  clear hm2 hf2
  have HP := two29 w2 m.pop.top m.top HI.out.2 HI.out.1
  have HE : Hid (doN A R 29 a m = pairM 29 m) := rfl
  have HE2 : Hid ((pairN 29 m.pop.top m.top).2 = (pairM 29 m).2 ∧ ((pairM 29 m).2 = 0 → m.pop.pop.push (pairN 29 m.pop.top m.top).1 = (pairM 29 m).1)) := pair_split 29 m
  rw [pairRet] at HP
  generalize pairN 29 m.pop.top m.top = r at *
  obtain ⟨z, f5⟩ := r
  go_wp2_with fail
  refine HP.mono ?_
  rintro e w3 ⟨rfl, rfl⟩
  go_wp2_with fail
  refine (rlay_any w3 F B c m.pop.pop z HM2.out (by have := HL.out; have := len_pop m; have := len_pop m.pop; have := len_push m.pop m.top; omega)).mono ?_
  rintro e w4 ⟨rfl, hm4, hf4⟩
  have HX : Hid (MRt w4 F B c (m.pop.pop.push z) ∧ Fr F w w4) := ⟨hm4, HF2.out.trans hf4⟩
  clear hm4 hf4 HP
  go_wp2
  go_ret2
  exact ⟨m.pop.pop.push z, 0, by rw [HE.out, ← HE2.out.1]; rfl, HX.out.1, HX.out.2, rfl, rfl, fun h => by rw [HE.out] at h ⊢; exact HE2.out.2 h, fun _ => rfl⟩
end Go.Proofs.Ytbpgafchagpmoaa
/-
  THE DOCUMENT's STEP AGAINST THE MACHINE's; ALL NUMBERS FIT.
-/
namespace Go.Proofs.Ytbpgafchagpmoaa
open Go.RowKit Go.Sort

def setA (k : Nat) (r : M × Int) : M × Int := ({ r.1 with at_ := k }, r.2)
theorem ite_set {c : Prop} [Decidable c] {x y x' y' : M × Int} {k : Nat} (h1 : x' = setA k x) (h2 : y' = setA k y) : (if c then x' else y') = setA k (if c then x else y) := by
  by_cases h : c
  · rw [if_pos h, if_pos h]; exact h1
  · rw [if_neg h, if_neg h]; exact h2
theorem do_setat (A : List Int) (R : List C) (op a : Int) (m : M) (k : Nat) : doN A R op a { m with at_ := k } = setA k (doN A R op a m) := by
  have hg : ∀ (i : Int) (m : M), getN R i { m with at_ := k } = setA k (getN R i m) := fun i m => ite_set rfl rfl
  have hp : ∀ (i : Int) (q : K) (m : M), putN i q { m with at_ := k } = setA k (putN i q m) := fun i q m => ite_set rfl rfl
  have ht : ∀ (x : Int) (m : M), tellN x { m with at_ := k } = setA k (tellN x m) := fun x m => ite_set rfl rfl
  have hq : ∀ (m : M), pairM op { m with at_ := k } = setA k (pairM op m) := fun m => ite_set rfl rfl
  exact ite_set rfl (ite_set rfl (ite_set rfl (ite_set rfl (ite_set rfl (ite_set rfl (ite_set (hg a m) (ite_set rfl (ite_set (hg m.top m.pop) (ite_set rfl (ite_set rfl (ite_set (hp a (1, m.top) m.pop) (ite_set (hp a (2, 0) m) (ite_set (hp m.pop.top (1, m.top) m.pop.pop) (ite_set (ht m.top m.pop) (ite_set rfl (hq m))))))))))))))))
theorem do_user (A : List Int) (R : List C) (op a : Int) (m : M) : (doN A R op a m).1.user = if op = 36 then m.top else m.user := by
  by_cases h : op = 36
  · subst h; rfl
  · rw [if_neg h]
    unfold doN
    repeat' (refine ite_P (P := fun r : M × Int => r.1.user = m.user) (fun _ => ?_) (fun _ => ?_))
    all_goals first
      | rfl
      | exact absurd ‹op = 36› h
      | (unfold getN; split <;> rfl)
      | (unfold putN; split <;> rfl)
      | (unfold tellN; split <;> rfl)
      | (unfold pairM; split <;> rfl)
/-- the simple ones -/
def simB (op : Int) : Bool := decide (1 ≤ op ∧ op ≤ 8) || op == 20 || op == 21 || op == 30 || op == 31
theorem sim_zero {A : List Int} {R : List C} {op a : Int} {m : M} (h : simB op = true) (h30 : op ≠ 30) (h31 : op ≠ 31) (h7 : op = 7 → 0 ≤ a ∧ a < (R.length : Int)) : (doN A R op a m).2 = 0 := by
  have : op = 1 ∨ op = 2 ∨ op = 3 ∨ op = 4 ∨ op = 5 ∨ op = 6 ∨ op = 7 ∨ op = 8 ∨ op = 20 ∨ op = 21 := by
    simp only [simB, Bool.or_eq_true, decide_eq_true_eq, beq_iff_eq] at h; omega
  rcases this with rfl | rfl | rfl | rfl | rfl | rfl | rfl | rfl | rfl | rfl
  all_goals first
    | rfl
    | (show (getN R a m).2 = 0
       rw [getN, if_pos (h7 rfl)])
/-- the document's mark Done -/
def dnM (n : Nat) (m : M) : M := { m with ended := doneB n m }
theorem dnM_live {n : Nat} {m : M} (h : doneB n m = false) : dnM n m = m := by
  unfold dnM; rw [h]
  simp only [doneB, Bool.or_eq_false_iff] at h
  obtain ⟨at_, st, lo, ou, pu, en, fa, us, sp⟩ := m
  simp only at h
  rw [h.1]
/-- a place further -/
def ahead (m : M) : M := { tick m with at_ := m.at_ + 1 }
section
variable {L : List K} {A : List Int} {R : List C} {m : M}
theorem step_sim (hd : doneB L.length m = false) (h : simB (cd L m.at_).1 = true) (h7 : (cd L m.at_).1 = 7 → 0 ≤ (cd L m.at_).2 ∧ (cd L m.at_).2 < (R.length : Int)) : smpN A R (cd L m.at_).1 (cd L m.at_).2 (ahead m) = stepN L A R m := by
  have h0 : (cd L m.at_).1 ≠ 0 := by
    intro e; rw [e] at h; cases h
  have hst : stepN L A R m = if (cd L m.at_).1 = 30 then { tick m with at_ := (cd L m.at_).2.toNat } else
      if (cd L m.at_).1 = 31 then { (tick m).pop with at_ := if m.top = 0 then (cd L m.at_).2.toNat else m.at_ + 1 } else
      if (doN A R (cd L m.at_).1 (cd L m.at_).2 (tick m)).2 = 0 then { (doN A R (cd L m.at_).1 (cd L m.at_).2 (tick m)).1 with at_ := m.at_ + 1 }
      else failN (doN A R (cd L m.at_).1 (cd L m.at_).2 (tick m)).2 (doN A R (cd L m.at_).1 (cd L m.at_).2 (tick m)).1 := by
    unfold stepN
    rw [if_neg (by rw [hd]; simp), if_neg h0]
  rw [hst]
  by_cases h30 : (cd L m.at_).1 = 30
  · rw [if_pos h30, smpN, if_pos h30]; rfl
  · rw [if_neg h30, smpN, if_neg h30]
    by_cases h31 : (cd L m.at_).1 = 31
    · rw [if_pos h31, if_pos h31]; rfl
    · rw [if_neg h31, if_neg h31]
      have hz := sim_zero (A := A) (m := tick m) h h30 h31 h7
      rw [if_pos hz]
      show (doN A R _ _ { tick m with at_ := m.at_ + 1 }).1 = _
      rw [do_setat]; rfl
theorem step_oth (hd : doneB L.length m = false) (h : simB (cd L m.at_).1 = false) (h0 : (cd L m.at_).1 ≠ 0) :
    (doN A R (cd L m.at_).1 (cd L m.at_).2 (ahead m)).2 = (doN A R (cd L m.at_).1 (cd L m.at_).2 (tick m)).2 ∧
    ((doN A R (cd L m.at_).1 (cd L m.at_).2 (ahead m)).2 = 0 → (doN A R (cd L m.at_).1 (cd L m.at_).2 (ahead m)).1 = stepN L A R m) ∧
    ((doN A R (cd L m.at_).1 (cd L m.at_).2 (ahead m)).2 ≠ 0 → stepN L A R m = failN (doN A R (cd L m.at_).1 (cd L m.at_).2 (tick m)).2 (doN A R (cd L m.at_).1 (cd L m.at_).2 (tick m)).1) := by
  have h30 : (cd L m.at_).1 ≠ 30 := by intro e; rw [e] at h; cases h
  have h31 : (cd L m.at_).1 ≠ 31 := by intro e; rw [e] at h; cases h
  have e := do_setat A R (cd L m.at_).1 (cd L m.at_).2 (tick m) (m.at_ + 1)
  have e2 : (doN A R (cd L m.at_).1 (cd L m.at_).2 (ahead m)).2 = (doN A R (cd L m.at_).1 (cd L m.at_).2 (tick m)).2 := by
    have := congrArg Prod.snd e
    exact this
  refine ⟨e2, fun hz => ?_, fun hz => ?_⟩
  · rw [show (doN A R (cd L m.at_).1 (cd L m.at_).2 (ahead m)).1 = { (doN A R (cd L m.at_).1 (cd L m.at_).2 (tick m)).1 with at_ := m.at_ + 1 } from by
    have := congrArg Prod.fst e
    exact this]
    unfold stepN
    rw [if_neg (by rw [hd]; simp), if_neg h0, if_neg h30, if_neg h31, if_pos (by rw [← e2]; exact hz)]
  · unfold stepN
    rw [if_neg (by rw [hd]; simp), if_neg h0, if_neg h30, if_neg h31, if_neg (by rw [← e2]; exact hz)]
end
/-- ALL NUMBERS FIT -/
structure Fits (m : M) : Prop where
  st : ∀ x ∈ m.st, In64 x
  lo : ∀ x ∈ m.lo, In64 x
structure Ins (L : List K) (A : List Int) (R : List C) : Prop where
  L : ∀ k ∈ L, In64 k.1 ∧ In64 k.2
  A : ∀ x ∈ A, In64 x
  R : ∀ c ∈ R, In64 c.2
theorem in_zero : In64 0 := by unfold In64; omega
theorem getD_in {l : List Int} (h : ∀ x ∈ l, In64 x) (i : Nat) : In64 (l.getD i 0) := by
  rw [List.getD_eq_getElem?_getD]
  cases e : l[i]? with
  | none => exact in_zero
  | some x => exact h x (List.mem_of_getElem? e)
theorem rdV_in {R : List C} (h : ∀ c ∈ R, In64 c.2) (i : Nat) : In64 (rdV (rd R i)) := by
  unfold rdV rd
  rw [List.getD_eq_getElem?_getD]
  cases e : R[i]? with
  | none => simp; exact in_zero
  | some c =>
    simp only [Option.getD_some]
    split
    · exact h c (List.mem_of_getElem? e)
    · exact in_zero
theorem trN_in (b : Bool) : In64 (trN b) := by unfold trN In64; split <;> omega
theorem cd_in {L : List K} (h : ∀ k ∈ L, In64 k.1 ∧ In64 k.2) (i : Nat) : In64 (cd L i).2 := by
  unfold cd
  rw [List.getD_eq_getElem?_getD]
  cases e : L[i]? with
  | none => exact in_zero
  | some x => exact (h x (List.mem_of_getElem? e)).2
theorem kwrap_in (t : Int) : In64 (IntKind.wrap .i64 t) := by
  unfold In64
  simp only [IntKind.wrap, IntKind.bits, IntKind.signed]
  simp
  omega
theorem tmod_in {x y : Int} (h : In64 x) : In64 (x.tmod y) := by
  unfold In64 at *
  have h1 := Int.natAbs_tmod x y
  have h2 : (x.tmod y).natAbs ≤ x.natAbs := by
    rw [h1]; exact Nat.mod_le _ _
  by_cases hx : 0 ≤ x
  · have h3 := Int.tmod_nonneg y hx
    omega
  · have h3 : x.tmod y ≤ 0 := by
      have := Int.tmod_nonneg y (a := -x) (by omega)
      rw [Int.neg_tmod] at this; omega
    omega
theorem pairN_in (op : Int) {x y : Int} (hx : In64 x) (hy : In64 y) : In64 (pairN op x y).1 := by
  unfold pairN
  repeat' (refine ite_P (P := fun r : Int × Int => In64 r.1) (fun _ => ?_) (fun _ => ?_))
  all_goals first
    | exact wrap_in64 _
    | exact in_zero
    | exact trN_in _
    | exact tmod_in hx
    | exact kwrap_in _
    | exact shr_in hx _
    | (simp only; unfold In64 at *; omega)
theorem top_in {m : M} (h : Fits m) : In64 m.top := by
  unfold M.top
  cases e : m.st with
  | nil => exact in_zero
  | cons x t => exact h.st x (by rw [e]; simp)
theorem Fits.pop {m : M} (h : Fits m) : Fits m.pop := ⟨fun x hx => h.st x (List.mem_of_mem_tail hx), h.lo⟩
theorem Fits.push {m : M} (h : Fits m) {z : Int} (hz : In64 z) : Fits (m.push z) := ⟨fun x hx => by
  rcases List.mem_cons.1 hx with rfl | hx
  · exact hz
  · exact h.st x hx, h.lo⟩
theorem do_fits {A : List Int} {R : List C} {m : M} (op : Int) {a : Int} (h : Fits m) (ha : In64 a) (hA : ∀ x ∈ A, In64 x) (hR : ∀ c ∈ R, In64 c.2) : Fits (doN A R op a m).1 := by
  have hg : ∀ i m, Fits m → Fits (getN R i m).1 := fun i m h => by
    unfold getN; split
    · exact h.push (rdV_in hR _)
    · exact h
  have hp : ∀ i q m, Fits m → Fits (putN i q m).1 := fun i q m h => by
    unfold putN; split
    · exact ⟨h.st, h.lo⟩
    · exact h
  have ht : ∀ x m, Fits m → Fits (tellN x m).1 := fun x m h => by
    unfold tellN; split
    · exact h
    · exact ⟨h.st, h.lo⟩
  have hq : Fits (pairM op m).1 := by
    unfold pairM; split
    · exact h.pop.pop.push (pairN_in op (top_in h.pop) (top_in h))
    · exact h.pop.pop
  have hs : Fits { m.pop with lo := m.lo.set a.toNat m.top } := ⟨h.pop.st, fun x hx => by
    rcases List.mem_or_eq_of_mem_set hx with hx | rfl
    · exact h.lo x hx
    · exact top_in h⟩
  unfold doN
  repeat' (refine ite_P (P := fun r : M × Int => Fits r.1) (fun _ => ?_) (fun _ => ?_))
  all_goals first
    | exact hq
    | exact hs
    | exact hg _ _ h
    | exact hg _ _ h.pop
    | exact hp _ _ _ h
    | exact hp _ _ _ h.pop
    | exact hp _ _ _ h.pop.pop
    | exact ht _ _ h.pop
    | exact h.push ha
    | exact h.push (rdV_in hR _)
    | exact h.pop.push (rdV_in hR _)
    | exact h
    | exact h.pop.pop
    | exact h.pop.pop.push (pairN_in op (top_in h.pop) (top_in h))
    | exact h.pop
    | exact h.push (getD_in h.lo _)
    | exact h.push (getD_in hA _)
    | exact h.push (trN_in _)
    | exact h.pop.push (trN_in _)
    | exact h.pop.push (wrap_in64 _)
    | exact (h.pop.push (top_in h)).push (top_in h)
    | exact ⟨h.pop.pop.st, h.pop.pop.lo⟩
    | exact ⟨h.pop.st, h.pop.lo⟩
    | exact ⟨h.st, h.lo⟩
theorem step_fits {L : List K} {A : List Int} {R : List C} {m : M} (hi : Ins L A R) (h : Fits m) : Fits (stepN L A R m) := by
  have hd := do_fits (A := A) (R := R) (m := tick m) (cd L m.at_).1 ⟨h.st, h.lo⟩ (cd_in hi.L m.at_) hi.A hi.R
  unfold stepN
  split; · exact h
  split; · exact ⟨h.st, h.lo⟩
  split; · exact ⟨h.st, h.lo⟩
  split; · exact ⟨h.pop.st, h.pop.lo⟩
  split; · exact ⟨hd.st, hd.lo⟩
  exact ⟨(fun x hx => by cases hx), fun x hx => by rw [List.eq_of_mem_replicate hx]; exact in_zero⟩
theorem run_fits {L : List K} {A : List Int} {R : List C} {m : M} (hi : Ins L A R) (h : Fits m) : ∀ k, Fits (runN L A R m k)
  | 0 => h
  | k + 1 => step_fits hi (run_fits hi h k)
theorem fits_start (p : Nums) : Fits (startM p) := ⟨(fun x hx => by cases hx), fun x hx => by rw [List.eq_of_mem_replicate hx]; exact in_zero⟩
end Go.Proofs.Ytbpgafchagpmoaa
