import Derived.Test.YtbpgafchagpmoaaJXRMem
/-
  THE WALK OF THE DOCUMENT's simple, NAME BY NAME.
-/
namespace Go.Proofs.Ytbpgafchagpmoaa
open Go.RowKit Go.Sort

/-- the document's simple instructions: the state behind one -/
def smpN (A : List Int) (R : List C) (op a : Int) (m : M) : M :=
  if op = 30 then { m with at_ := a.toNat } else
  if op = 31 then { m.pop with at_ := if m.top = 0 then a.toNat else m.at_ } else (doN A R op a m).1
/-- what fits -/
def fitR (A : List Int) (R : List C) (m : M) (op a : Int) : Prop := fitN A R m op a ∧ (op = 7 → 0 ≤ a ∧ a < (R.length : Int)) ∧ ((op = 30 ∨ op = 31) → 0 ≤ a)
abbrev SimOK (op : Int) (nm : Value) : Prop := ∀ (w : World) (F : Nat → Prop) (B : Nat) (c : MC) (L : List K) (A : List Int) (R : List C) (m : M) (a : Int), MRt w F B c m → Giv w F c L A R → takesN op ≤ (m.st.length : Int) → m.st.length ≤ 100 → fitR A R m op a →
    Calls Try.prog 45 #[pm B, nm, .int .i64 a] w fun e w' => e = .returned (.bool true) ∧ MRt w' F B c (smpN A R op a m) ∧ Fr F w w'
abbrev NoSim (nm : Value) : Prop := ∀ (w : World) (B : Nat) (a : Int), Calls Try.prog 45 #[pm B, nm, .int .i64 a] w fun e w' => e = .returned (.bool false) ∧ w' = w
section
variable {w : World} {F : Nat → Prop} {B : Nat} {c : MC} {m : M}
/-- a local -/
theorem MRt.loc (x : MRt w F B c m) (j : Nat) (hj : j < m.lo.length) : ∃ g cap, w.cell? ⟨B, 8, none⟩ = some (.slice (some ⟨g, 0, none⟩) m.lo.length cap) ∧ m.lo.length ≤ cap ∧ w.cell? ⟨g, j, none⟩ = some (.int .i64 (m.lo.getD j 0)) := by
  obtain ⟨O, h, x, hF⟩ := x
  obtain ⟨g, cap, hv, hc⟩ := own_some x.locs (by omega)
  have hl := x.locs
  rw [hv] at hl
  exact ⟨g, cap, by rw [← hv]; exact x.cell 8, hc, hl.cell j hj⟩
/-- a local is stored -/
theorem MRt.save (x : MRt w F B c m) (j : Nat) (hj : j < m.lo.length) (z : Int) : ∃ g cap, w.cell? ⟨B, 8, none⟩ = some (.slice (some ⟨g, 0, none⟩) m.lo.length cap) ∧ m.lo.length ≤ cap ∧ 
    w.cell? ⟨g, j, none⟩ = some (.int .i64 (m.lo.getD j 0)) ∧ w.frozen? ⟨g, j, none⟩ = false ∧ MRt (w.setCell ⟨g, j, none⟩ (.int .i64 z)) F B c { m with lo := m.lo.set j z } ∧ Fr F w (w.setCell ⟨g, j, none⟩ (.int .i64 z)) := by
  obtain ⟨O, h, x, hF⟩ := x
  obtain ⟨g, cap, hv, hc⟩ := own_some x.locs (by omega)
  have hl := x.locs
  rw [hv] at hl
  refine ⟨g, cap, by rw [← hv]; exact x.cell 8, hc, hl.cell j hj, World.ownsRow.frozenAt hl j, ⟨O, h, x.rowL ?_ ?_, fun k hk => ⟨(hF k hk).1, by have := (hF k hk).2; simpa using this⟩⟩, (Fr.refl F w).set _ _ (fun hk => by have := (hF g hk).1; rw [x.ol g (by rw [hv]; rfl)] at this; cases this)⟩
  · rw [hv]; exact (Only.refl w (.slice (some ⟨g, 0, none⟩) m.lo.length cap)).set j (.int .i64 z)
  · have h1 := (World.ownsRow.stored hl j (.int .i64 z)).1
    rw [hv]
    show World.ownsRow _ _ _ _ _ (m.lo.set j z).length _
    rw [List.length_set, List.map_set]; exact h1
end
theorem tk1 {op : Int} {n : Nat} (h : takesN op ≤ (n : Int)) (k : Int) (e : takesN op = k) : k ≤ (n : Int) := by rw [← e]; exact h
set_option maxRecDepth 100000 in
set_option maxHeartbeats 1000000 in
theorem sim1 : SimOK 1 (.string ⟨#[112, 117, 115, 104]⟩) := by
  intro w F B c L A R m a hm hg ht hl hf
  have HM : Hid (MRt w F B c m) := hm
  have HG : Hid (Giv w F c L A R) := hg
  have HL : Hid (0 ≤ m.st.length ∧ m.st.length ≤ 100) := ⟨by have := tk1 ht _ rfl; simp only [takesN, tkL, Int.toNat, List.getD_cons_zero, List.getD_cons_succ] at ht; omega, hl⟩
  clear hm hg ht hl hf
  go_enter Try.func45, Try.ntmps45
  go_wp2_with fail
  refine (rlay_any w F B c (m) (a) HM.out (by have := HL.out; have := len_pop m; have := len_pop m.pop; have := len_push m.pop m.top; omega)).mono ?_
  rintro e w1 ⟨rfl, hm1, hf1⟩
  have HM1 : Hid (MRt w1 F B c ((m).push (a))) := hm1
  have HF1 : Hid (Fr F w w1) := hf1
  clear hm1 hf1
  go_wp2
  go_ret
  exact ⟨rfl, HM1.out, HF1.out⟩
set_option maxRecDepth 100000 in
set_option maxHeartbeats 1000000 in
theorem sim2 : SimOK 2 (.string ⟨#[112, 111, 112]⟩) := by
  intro w F B c L A R m a hm hg ht hl hf
  have HM : Hid (MRt w F B c m) := hm
  have HG : Hid (Giv w F c L A R) := hg
  have HL : Hid (1 ≤ m.st.length ∧ m.st.length ≤ 100) := ⟨by have := tk1 ht _ rfl; simp only [takesN, tkL, Int.toNat, List.getD_cons_zero, List.getD_cons_succ] at ht; omega, hl⟩
  clear hm hg ht hl hf
  go_enter Try.func45, Try.ntmps45
  go_wp2_with fail
  refine (rtake_any w F B c (m) HM.out (by have := HL.out; have := len_pop m; have := len_pop m.pop; have := len_push m.pop m.top; omega) (by have := HL.out; have := len_pop m; have := len_pop m.pop; have := len_push m.pop m.top; omega)).mono ?_
  rintro e w1 ⟨rfl, hm1, hf1⟩
  have HM1 : Hid (MRt w1 F B c ((m).pop)) := hm1
  have HF1 : Hid (Fr F w w1) := hf1
  clear hm1 hf1
  go_wp2
  go_ret
  exact ⟨rfl, HM1.out, HF1.out⟩
set_option maxRecDepth 100000 in
set_option maxHeartbeats 1000000 in
theorem sim3 : SimOK 3 (.string ⟨#[100, 117, 112]⟩) := by
  intro w F B c L A R m a hm hg ht hl hf
  have HM : Hid (MRt w F B c m) := hm
  have HG : Hid (Giv w F c L A R) := hg
  have HL : Hid (1 ≤ m.st.length ∧ m.st.length ≤ 100) := ⟨by have := tk1 ht _ rfl; simp only [takesN, tkL, Int.toNat, List.getD_cons_zero, List.getD_cons_succ] at ht; omega, hl⟩
  clear hm hg ht hl hf
  go_enter Try.func45, Try.ntmps45
  go_wp2_with fail
  refine (rtake_any w F B c (m) HM.out (by have := HL.out; have := len_pop m; have := len_pop m.pop; have := len_push m.pop m.top; omega) (by have := HL.out; have := len_pop m; have := len_pop m.pop; have := len_push m.pop m.top; omega)).mono ?_
  rintro e w1 ⟨rfl, hm1, hf1⟩
  have HM1 : Hid (MRt w1 F B c ((m).pop)) := hm1
  have HF1 : Hid (Fr F w w1) := hf1
  clear hm1 hf1
  go_wp2_with fail
  refine (rlay_any w1 F B c ((m).pop) (m.top) HM1.out (by have := HL.out; have := len_pop m; have := len_pop m.pop; have := len_push m.pop m.top; omega)).mono ?_
  rintro e w2 ⟨rfl, hm2, hf2⟩
  have HM2 : Hid (MRt w2 F B c (((m).pop).push (m.top))) := hm2
  have HF2 : Hid (Fr F w w2) := HF1.out.trans hf2
  clear hm2 hf2
  go_wp2_with fail
  refine (rlay_any w2 F B c (((m).pop).push (m.top)) (m.top) HM2.out (by have := HL.out; have := len_pop m; have := len_pop m.pop; have := len_push m.pop m.top; omega)).mono ?_
  rintro e w3 ⟨rfl, hm3, hf3⟩
  have HM3 : Hid (MRt w3 F B c ((((m).pop).push (m.top)).push (m.top))) := hm3
  have HF3 : Hid (Fr F w w3) := HF2.out.trans hf3
  clear hm3 hf3
  go_wp2
  go_ret
  exact ⟨rfl, HM3.out, HF3.out⟩
set_option maxRecDepth 100000 in
set_option maxHeartbeats 1000000 in
theorem sim4 : SimOK 4 (.string ⟨#[108, 111, 97, 100]⟩) := by
  intro w F B c L A R m a hm hg ht hl hf
  have HM : Hid (MRt w F B c m) := hm
  have HG : Hid (Giv w F c L A R) := hg
  have HL : Hid (0 ≤ m.st.length ∧ m.st.length ≤ 100) := ⟨by have := tk1 ht _ rfl; simp only [takesN, tkL, Int.toNat, List.getD_cons_zero, List.getD_cons_succ] at ht; omega, hl⟩
  obtain ⟨ha0, ha1⟩ := hf.1.1 (.inl rfl)
  obtain ⟨j, rfl⟩ := Int.eq_ofNat_of_zero_le ha0
  obtain ⟨g, cap, c8, hcap, cg⟩ := hm.loc j (by omega)
  have HE : Hid (smpN A R 4 (j : Int) m = m.push (m.lo.getD j 0)) := rfl
  have HP := rlay_any w F B c m (m.lo.getD j 0) hm (by omega)
  generalize m.lo.getD j 0 = z at *
  generalize m.lo.length = n at *
  clear hm hg ht hl hf
  go_enter Try.func45, Try.ntmps45
  go_wp2_with fail
  refine HP.mono ?_
  rintro e w1 ⟨rfl, hm1, hf1⟩
  have HX : Hid (MRt w1 F B c (smpN A R 4 (j : Int) m) ∧ Fr F w w1) := ⟨by rw [HE.out]; exact hm1, hf1⟩
  clear hm1 hf1 HP
  go_wp2
  go_ret
  exact ⟨rfl, HX.out⟩
set_option maxRecDepth 100000 in
set_option maxHeartbeats 1000000 in
theorem sim5 : SimOK 5 (.string ⟨#[115, 97, 118, 101]⟩) := by
  intro w F B c L A R m a hm hg ht hl hf
  have HM : Hid (MRt w F B c m) := hm
  have HG : Hid (Giv w F c L A R) := hg
  have HL : Hid (1 ≤ m.st.length ∧ m.st.length ≤ 100) := ⟨by have := tk1 ht _ rfl; simp only [takesN, tkL, Int.toNat, List.getD_cons_zero, List.getD_cons_succ] at ht; omega, hl⟩
  obtain ⟨ha0, ha1⟩ := hf.1.1 (.inr rfl)
  obtain ⟨j, rfl⟩ := Int.eq_ofNat_of_zero_le ha0
  have HJ : Hid (j < m.lo.length) := by show j < m.lo.length; omega
  have HE : Hid (smpN A R 5 (j : Int) m = { m.pop with lo := m.lo.set j m.top }) := rfl
  clear hm hg ht hl hf
  clear ha0 ha1
  go_enter Try.func45, Try.ntmps45
  go_wp2_with fail
  refine (rtake_any w F B c m HM.out (by have := HL.out; have := len_pop m; have := len_pop m.pop; have := len_push m.pop m.top; omega) (by have := HL.out; have := len_pop m; have := len_pop m.pop; have := len_push m.pop m.top; omega)).mono ?_
  rintro e w1 ⟨rfl, hm1, hf1⟩
  obtain ⟨g, cap, c8, hcap, cg, fg, hm2, hf2⟩ := hm1.save j HJ.out m.top
  have HX : Hid (MRt (w1.setCell ⟨g, j, none⟩ (.int .i64 m.top)) F B c (smpN A R 5 (j : Int) m) ∧ Fr F w (w1.setCell ⟨g, j, none⟩ (.int .i64 m.top))) := ⟨by rw [HE.out]; exact hm2, hf1.trans hf2⟩
  have hjn : (j : Int) < (m.pop.lo.length : Int) := by have := HJ.out; show (j : Int) < (m.lo.length : Int); omega
  generalize m.pop.lo.length = n at *
  clear hm1 hf1 hm2 hf2
  go_wp2
  go_ret
  exact ⟨rfl, HX.out⟩
set_option maxRecDepth 100000 in
set_option maxHeartbeats 1000000 in
theorem sim6 : SimOK 6 (.string ⟨#[97, 114, 103]⟩) := by
  intro w F B c L A R m a hm hg ht hl hf
  have HM : Hid (MRt w F B c m) := hm
  have HG : Hid (Giv w F c L A R) := hg
  have HL : Hid (0 ≤ m.st.length ∧ m.st.length ≤ 100) := ⟨by have := tk1 ht _ rfl; simp only [takesN, tkL, Int.toNat, List.getD_cons_zero, List.getD_cons_succ] at ht; omega, hl⟩
  obtain ⟨ha0, ha1⟩ := hf.1.2.1 rfl
  obtain ⟨j, rfl⟩ := Int.eq_ofNat_of_zero_le ha0
  obtain ⟨b, off, haa, cg⟩ := hg.args.get j (by omega)
  obtain ⟨_, _, _, c5, _⟩ := hm.nums
  rw [haa, hg.la] at c5
  have HE : Hid (smpN A R 6 (j : Int) m = m.push (A.getD j 0)) := rfl
  have HP := rlay_any w F B c m (A.getD j 0) hm (by omega)
  generalize A.getD j 0 = z at *
  generalize A.length = n at *
  clear hm hg ht hl hf
  go_enter Try.func45, Try.ntmps45
  go_wp2_with fail
  refine HP.mono ?_
  rintro e w1 ⟨rfl, hm1, hf1⟩
  have HX : Hid (MRt w1 F B c (smpN A R 6 (j : Int) m) ∧ Fr F w w1) := ⟨by rw [HE.out]; exact hm1, hf1⟩
  clear hm1 hf1 HP
  go_wp2
  go_ret
  exact ⟨rfl, HX.out⟩
set_option maxRecDepth 100000 in
set_option maxHeartbeats 1000000 in
theorem sim7 : SimOK 7 (.string ⟨#[103, 101, 116]⟩) := by
  intro w F B c L A R m a hm hg ht hl hf
  have HM : Hid (MRt w F B c m) := hm
  have HG : Hid (Giv w F c L A R) := hg
  have HL : Hid (0 ≤ m.st.length ∧ m.st.length ≤ 100) := ⟨by have := tk1 ht _ rfl; simp only [takesN, tkL, Int.toNat, List.getD_cons_zero, List.getD_cons_succ] at ht; omega, hl⟩
  obtain ⟨ha0, ha1⟩ := hf.2.1 rfl
  obtain ⟨j, rfl⟩ := Int.eq_ofNat_of_zero_le ha0
  have HE : Hid (smpN A R 7 (j : Int) m = m.push (rdV (rd R j))) := by
    show (getN R (j : Int) m).1 = _
    rw [getN, if_pos ⟨ha0, ha1⟩]; rfl
  have HV := rvalue_any w F B c m R j hm hg.reads hg.lr (by omega)
  generalize rdV (rd R j) = z at *
  clear hm hg ht hl hf
  go_enter Try.func45, Try.ntmps45
  go_wp2_with fail
  refine HV.mono ?_
  rintro e w1 ⟨rfl, hm1, hf1, _⟩
  have HM1 : Hid (MRt w1 F B c m) := hm1
  have HF1 : Hid (Fr F w w1) := hf1
  clear hm1 hf1 HV
  go_wp2_with fail
  refine (rlay_any w1 F B c m z HM1.out (by have := HL.out; have := len_pop m; have := len_pop m.pop; have := len_push m.pop m.top; omega)).mono ?_
  rintro e w2 ⟨rfl, hm2, hf2⟩
  have HX : Hid (MRt w2 F B c (smpN A R 7 (j : Int) m) ∧ Fr F w w2) := ⟨by rw [HE.out]; exact hm2, HF1.out.trans hf2⟩
  clear hm2 hf2
  go_wp2
  go_ret
  exact ⟨rfl, HX.out⟩
set_option maxRecDepth 100000 in
set_option maxHeartbeats 1000000 in
theorem sim8 : SimOK 8 (.string ⟨#[104, 97, 115]⟩) := by
  intro w F B c L A R m a hm hg ht hl hf
  have HM : Hid (MRt w F B c m) := hm
  have HG : Hid (Giv w F c L A R) := hg
  have HL : Hid (0 ≤ m.st.length ∧ m.st.length ≤ 100) := ⟨by have := tk1 ht _ rfl; simp only [takesN, tkL, Int.toNat, List.getD_cons_zero, List.getD_cons_succ] at ht; omega, hl⟩
  obtain ⟨ha0, ha1⟩ := hf.1.2.2 rfl
  obtain ⟨j, rfl⟩ := Int.eq_ofNat_of_zero_le ha0
  obtain ⟨b, off, hra, cg, _⟩ := hg.reads.cell j (by omega)
  obtain ⟨_, _, _, _, c6⟩ := hm.nums
  rw [hra, hg.lr] at c6
  have HE : Hid (smpN A R 8 (j : Int) m = m.push (trN (rd R j).1)) := rfl
  have HP := rlay_any w F B c m (trN (rd R j).1) hm (by omega)
  have HT := rtruth_any w (rd R j).1
  generalize (rd R j).1 = z at *
  generalize R.length = n at *
  clear hm hg ht hl hf
  go_enter Try.func45, Try.ntmps45
  go_wp2_with fail
  refine HT.mono ?_
  rintro e w1 ⟨rfl, rfl⟩
  go_wp2_with fail
  refine HP.mono ?_
  rintro e w2 ⟨rfl, hm1, hf1⟩
  have HX : Hid (MRt w2 F B c (smpN A R 8 (j : Int) m) ∧ Fr F w1 w2) := ⟨by rw [HE.out]; exact hm1, hf1⟩
  clear hm1 hf1 HP HT
  go_wp2
  go_ret
  exact ⟨rfl, HX.out⟩
set_option maxRecDepth 100000 in
set_option maxHeartbeats 1000000 in
theorem sim20 : SimOK 20 (.string ⟨#[110, 101, 103]⟩) := by
  intro w F B c L A R m a hm hg ht hl hf
  have HM : Hid (MRt w F B c m) := hm
  have HG : Hid (Giv w F c L A R) := hg
  have HL : Hid (1 ≤ m.st.length ∧ m.st.length ≤ 100) := ⟨by have := tk1 ht _ rfl; simp only [takesN, tkL, Int.toNat, List.getD_cons_zero, List.getD_cons_succ] at ht; omega, hl⟩
  clear hm hg ht hl hf
  go_enter Try.func45, Try.ntmps45
  go_wp2_with fail
  refine (rtake_any w F B c (m) HM.out (by have := HL.out; have := len_pop m; have := len_pop m.pop; have := len_push m.pop m.top; omega) (by have := HL.out; have := len_pop m; have := len_pop m.pop; have := len_push m.pop m.top; omega)).mono ?_
  rintro e w1 ⟨rfl, hm1, hf1⟩
  have HM1 : Hid (MRt w1 F B c ((m).pop)) := hm1
  have HF1 : Hid (Fr F w w1) := hf1
  clear hm1 hf1
  go_wp2_with fail
  refine (rlay_any w1 F B c ((m).pop) (negN m.top) HM1.out (by have := HL.out; have := len_pop m; have := len_pop m.pop; have := len_push m.pop m.top; omega)).mono ?_
  rintro e w2 ⟨rfl, hm2, hf2⟩
  have HM2 : Hid (MRt w2 F B c (((m).pop).push (negN m.top))) := hm2
  have HF2 : Hid (Fr F w w2) := HF1.out.trans hf2
  clear hm2 hf2
  go_wp2
  go_ret
  exact ⟨rfl, HM2.out, HF2.out⟩
set_option maxRecDepth 100000 in
set_option maxHeartbeats 1000000 in
theorem sim21 : SimOK 21 (.string ⟨#[110, 111, 116]⟩) := by
  intro w F B c L A R m a hm hg ht hl hf
  have HM : Hid (MRt w F B c m) := hm
  have HG : Hid (Giv w F c L A R) := hg
  have HL : Hid (1 ≤ m.st.length ∧ m.st.length ≤ 100) := ⟨by have := tk1 ht _ rfl; simp only [takesN, tkL, Int.toNat, List.getD_cons_zero, List.getD_cons_succ] at ht; omega, hl⟩
  clear hm hg ht hl hf
  go_enter Try.func45, Try.ntmps45
  go_wp2_with fail
  refine (rtake_any w F B c m HM.out (by have := HL.out; have := len_pop m; have := len_pop m.pop; have := len_push m.pop m.top; omega) (by have := HL.out; have := len_pop m; have := len_pop m.pop; have := len_push m.pop m.top; omega)).mono ?_
  rintro e w1 ⟨rfl, hm1, hf1⟩
  have HM1 : Hid (MRt w1 F B c m.pop) := hm1
  have HF1 : Hid (Fr F w w1) := hf1
  clear hm1 hf1
  go_wp2_with fail
  refine (rtruth_any w1 _).mono ?_
  rintro e w2 ⟨rfl, rfl⟩
  go_wp2_with fail
  refine (rlay_any w2 F B c m.pop (trN (m.top == 0)) HM1.out (by have := HL.out; have := len_pop m; have := len_pop m.pop; have := len_push m.pop m.top; omega)).mono ?_
  rintro e w3 ⟨rfl, hm2, hf2⟩
  have HX : Hid (MRt w3 F B c (smpN A R 21 a m) ∧ Fr F w w3) := ⟨hm2, HF1.out.trans hf2⟩
  clear hm2 hf2
  go_wp2
  go_ret
  exact ⟨rfl, HX.out⟩
set_option maxRecDepth 100000 in
set_option maxHeartbeats 1000000 in
theorem sim30 : SimOK 30 (.string ⟨#[106, 117, 109, 112]⟩) := by
  intro w F B c L A R m a hm hg ht hl hf
  have HM : Hid (MRt w F B c m) := hm
  have HG : Hid (Giv w F c L A R) := hg
  have HL : Hid (0 ≤ m.st.length ∧ m.st.length ≤ 100) := ⟨by have := tk1 ht _ rfl; simp only [takesN, tkL, Int.toNat, List.getD_cons_zero, List.getD_cons_succ] at ht; omega, hl⟩
  obtain ⟨j, rfl⟩ := Int.eq_ofNat_of_zero_le (hf.2.2 (.inl rfl))
  obtain ⟨c11, _⟩ := hm.cells
  obtain ⟨f11, hm1, hf1⟩ := hm.put 11 (.int .i64 (j : Int)) { m with at_ := j } (fun _ => rfl) rfl rfl rfl rfl
  have HX : Hid (MRt (w.setCell ⟨B, 11, none⟩ (.int .i64 (j : Int))) F B c (smpN A R 30 (j : Int) m) ∧ Fr F w (w.setCell ⟨B, 11, none⟩ (.int .i64 (j : Int)))) := ⟨hm1, hf1⟩
  clear hm1 hf1
  clear hm hg ht hl hf
  go_enter Try.func45, Try.ntmps45
  go_wp2
  go_ret
  exact ⟨rfl, HX.out⟩
set_option maxRecDepth 100000 in
set_option maxHeartbeats 1000000 in
theorem sim31 : SimOK 31 (.string ⟨#[122, 101, 114, 111]⟩) := by
  intro w F B c L A R m a hm hg ht hl hf
  have HM : Hid (MRt w F B c m) := hm
  have HG : Hid (Giv w F c L A R) := hg
  have HL : Hid (1 ≤ m.st.length ∧ m.st.length ≤ 100) := ⟨by have := tk1 ht _ rfl; simp only [takesN, tkL, Int.toNat, List.getD_cons_zero, List.getD_cons_succ] at ht; omega, hl⟩
  obtain ⟨j, rfl⟩ := Int.eq_ofNat_of_zero_le (hf.2.2 (.inr rfl))
  clear hm hg ht hl hf
  go_enter Try.func45, Try.ntmps45
  go_wp2_with fail
  refine (rtake_any w F B c m HM.out (by have := HL.out; have := len_pop m; have := len_pop m.pop; have := len_push m.pop m.top; omega) (by have := HL.out; have := len_pop m; have := len_pop m.pop; have := len_push m.pop m.top; omega)).mono ?_
  rintro e w1 ⟨rfl, hm1, hf1⟩
  by_cases h0 : m.top = 0
  · obtain ⟨c11, _⟩ := hm1.cells
    obtain ⟨f11, hm2, hf2⟩ := hm1.put 11 (.int .i64 (j : Int)) { m.pop with at_ := j } (fun _ => rfl) rfl rfl rfl rfl
    have HX : Hid (MRt (w1.setCell ⟨B, 11, none⟩ (.int .i64 (j : Int))) F B c (smpN A R 31 (j : Int) m) ∧ Fr F w (w1.setCell ⟨B, 11, none⟩ (.int .i64 (j : Int)))) := ⟨by
      rw [show smpN A R 31 (j : Int) m = { m.pop with at_ := if m.top = 0 then j else m.at_ } from rfl, if_pos h0]; exact hm2, hf1.trans hf2⟩
    clear hm1 hf1 hm2 hf2
    rw [h0]
    go_wp2
    go_ret
    exact ⟨rfl, HX.out⟩
  · have HX : Hid (MRt w1 F B c (smpN A R 31 (j : Int) m) ∧ Fr F w w1) := ⟨by
      rw [show smpN A R 31 (j : Int) m = { m.pop with at_ := if m.top = 0 then j else m.at_ } from rfl, if_neg h0]; exact hm1, hf1⟩
    have h0' : (m.top == 0) = false := by simpa using h0
    generalize m.top = z at *
    clear hm1 hf1
    go_wp2
    go_ret
    exact ⟨rfl, HX.out⟩
theorem nosim9 : NoSim (.string ⟨#[103, 101, 116, 120]⟩) := by
  intro w B a
  go_enter Try.func45, Try.ntmps45
  go_wp2
  go_ret
  exact ⟨rfl, rfl⟩
theorem nosim10 : NoSim (.string ⟨#[97, 100, 100]⟩) := by
  intro w B a
  go_enter Try.func45, Try.ntmps45
  go_wp2
  go_ret
  exact ⟨rfl, rfl⟩
theorem nosim11 : NoSim (.string ⟨#[115, 117, 98]⟩) := by
  intro w B a
  go_enter Try.func45, Try.ntmps45
  go_wp2
  go_ret
  exact ⟨rfl, rfl⟩
theorem nosim12 : NoSim (.string ⟨#[109, 117, 108]⟩) := by
  intro w B a
  go_enter Try.func45, Try.ntmps45
  go_wp2
  go_ret
  exact ⟨rfl, rfl⟩
theorem nosim13 : NoSim (.string ⟨#[100, 105, 118]⟩) := by
  intro w B a
  go_enter Try.func45, Try.ntmps45
  go_wp2
  go_ret
  exact ⟨rfl, rfl⟩
theorem nosim14 : NoSim (.string ⟨#[109, 111, 100]⟩) := by
  intro w B a
  go_enter Try.func45, Try.ntmps45
  go_wp2
  go_ret
  exact ⟨rfl, rfl⟩
theorem nosim15 : NoSim (.string ⟨#[97, 110, 100]⟩) := by
  intro w B a
  go_enter Try.func45, Try.ntmps45
  go_wp2
  go_ret
  exact ⟨rfl, rfl⟩
theorem nosim16 : NoSim (.string ⟨#[111, 114]⟩) := by
  intro w B a
  go_enter Try.func45, Try.ntmps45
  go_wp2
  go_ret
  exact ⟨rfl, rfl⟩
theorem nosim17 : NoSim (.string ⟨#[120, 111, 114]⟩) := by
  intro w B a
  go_enter Try.func45, Try.ntmps45
  go_wp2
  go_ret
  exact ⟨rfl, rfl⟩
theorem nosim18 : NoSim (.string ⟨#[115, 104, 108]⟩) := by
  intro w B a
  go_enter Try.func45, Try.ntmps45
  go_wp2
  go_ret
  exact ⟨rfl, rfl⟩
theorem nosim19 : NoSim (.string ⟨#[115, 104, 114]⟩) := by
  intro w B a
  go_enter Try.func45, Try.ntmps45
  go_wp2
  go_ret
  exact ⟨rfl, rfl⟩
theorem nosim22 : NoSim (.string ⟨#[101, 113]⟩) := by
  intro w B a
  go_enter Try.func45, Try.ntmps45
  go_wp2
  go_ret
  exact ⟨rfl, rfl⟩
theorem nosim23 : NoSim (.string ⟨#[110, 101]⟩) := by
  intro w B a
  go_enter Try.func45, Try.ntmps45
  go_wp2
  go_ret
  exact ⟨rfl, rfl⟩
theorem nosim24 : NoSim (.string ⟨#[108, 116]⟩) := by
  intro w B a
  go_enter Try.func45, Try.ntmps45
  go_wp2
  go_ret
  exact ⟨rfl, rfl⟩
theorem nosim25 : NoSim (.string ⟨#[108, 101]⟩) := by
  intro w B a
  go_enter Try.func45, Try.ntmps45
  go_wp2
  go_ret
  exact ⟨rfl, rfl⟩
theorem nosim26 : NoSim (.string ⟨#[103, 116]⟩) := by
  intro w B a
  go_enter Try.func45, Try.ntmps45
  go_wp2
  go_ret
  exact ⟨rfl, rfl⟩
theorem nosim27 : NoSim (.string ⟨#[103, 101]⟩) := by
  intro w B a
  go_enter Try.func45, Try.ntmps45
  go_wp2
  go_ret
  exact ⟨rfl, rfl⟩
theorem nosim28 : NoSim (.string ⟨#[109, 105, 110]⟩) := by
  intro w B a
  go_enter Try.func45, Try.ntmps45
  go_wp2
  go_ret
  exact ⟨rfl, rfl⟩
theorem nosim29 : NoSim (.string ⟨#[109, 97, 120]⟩) := by
  intro w B a
  go_enter Try.func45, Try.ntmps45
  go_wp2
  go_ret
  exact ⟨rfl, rfl⟩
theorem nosim32 : NoSim (.string ⟨#[112, 117, 116]⟩) := by
  intro w B a
  go_enter Try.func45, Try.ntmps45
  go_wp2
  go_ret
  exact ⟨rfl, rfl⟩
theorem nosim33 : NoSim (.string ⟨#[100, 101, 108]⟩) := by
  intro w B a
  go_enter Try.func45, Try.ntmps45
  go_wp2
  go_ret
  exact ⟨rfl, rfl⟩
theorem nosim34 : NoSim (.string ⟨#[112, 117, 116, 120]⟩) := by
  intro w B a
  go_enter Try.func45, Try.ntmps45
  go_wp2
  go_ret
  exact ⟨rfl, rfl⟩
theorem nosim35 : NoSim (.string ⟨#[111, 117, 116]⟩) := by
  intro w B a
  go_enter Try.func45, Try.ntmps45
  go_wp2
  go_ret
  exact ⟨rfl, rfl⟩
theorem nosim36 : NoSim (.string ⟨#[97, 98, 111, 114, 116]⟩) := by
  intro w B a
  go_enter Try.func45, Try.ntmps45
  go_wp2
  go_ret
  exact ⟨rfl, rfl⟩
end Go.Proofs.Ytbpgafchagpmoaa
