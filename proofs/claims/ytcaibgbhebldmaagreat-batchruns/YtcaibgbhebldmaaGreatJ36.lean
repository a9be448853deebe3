import Derived.Test.YtcaibgbhebldmaaGreatJ33
import Derived.Test.YtcaibgbhebldmaaGreatJ34
import Derived.Test.YtcaibgbhebldmaaGreatJ35
/-
  THE WALK OF Step.
-/
namespace Go.Proofs.YtcaibgbhebldmaaGreat
open Go.RowKit Go.Sort

set_option maxRecDepth 100000 in
theorem doPair (op : Int) (hp : (10 ≤ op ∧ op ≤ 19) ∨ (22 ≤ op ∧ op ≤ 29)) : DoOK op := by
  intro w F B Z L A R m a hm ht hl ho hf
  have HD : Hid (DS w (wb w op a) F B Z L A R a m) := DS.start hm op a
  have h2 : 2 ≤ m.st.length := by
    have : op = 10 ∨ op = 11 ∨ op = 12 ∨ op = 13 ∨ op = 14 ∨ op = 15 ∨ op = 16 ∨ op = 17 ∨ op = 18 ∨ op = 19 ∨ op = 22 ∨ op = 23 ∨ op = 24 ∨ op = 25 ∨ op = 26 ∨ op = 27 ∨ op = 28 ∨ op = 29 := by omega
    rcases this with rfl | rfl | rfl | rfl | rfl | rfl | rfl | rfl | rfl | rfl | rfl | rfl | rfl | rfl | rfl | rfl | rfl | rfl <;> (simp only [takesN, tkL, Int.toNat, List.getD_cons_zero, List.getD_cons_succ] at ht; omega)
  have HP := pair_any op hp (wb w op a) _ B Z L A R m HD.out.mst h2 (by omega)
  have HE : Hid (doN A R op a m = pairM op m) := by
    show doN A R op a m = _
    unfold doN
    rw [if_neg (by omega), if_neg (by omega), if_neg (by omega), if_neg (by omega), if_neg (by omega), if_neg (by omega), if_neg (by omega), if_neg (by omega), if_neg (by omega), if_neg (by omega), if_neg (by omega), if_neg (by omega), if_neg (by omega), if_neg (by omega), if_neg (by omega), if_neg (by omega)]
  have e1 : (op == 1) = false := by simp; omega
  have e2 : (op == 2) = false := by simp; omega
  have e3 : (op == 3) = false := by simp; omega
  have e4 : (op == 4) = false := by simp; omega
  have e5 : (op == 5) = false := by simp; omega
  have e6 : (op == 6) = false := by simp; omega
  have e7 : (op == 7) = false := by simp; omega
  have e8 : (op == 8) = false := by simp; omega
  have e9 : (op == 9) = false := by simp; omega
  have e20 : (op == 20) = false := by simp; omega
  have e21 : (op == 21) = false := by simp; omega
  have e32 : (op == 32) = false := by simp; omega
  have e33 : (op == 33) = false := by simp; omega
  have e34 : (op == 34) = false := by simp; omega
  have e35 : (op == 35) = false := by simp; omega
  have e36 : (op == 36) = false := by simp; omega
  clear hm ht hl ho hf h2 hp
  go_enter Tryz.func63, Tryz.ntmps63
  go_wp2_with fail
  refine HP.mono ?_
  rintro e w1 ⟨rfl, hm1, hf1⟩
  have HD1 : Hid (DS w w1 F B Z L A R a (pairM op m).1) := HD.out.next hm1 hf1
  clear hm1 hf1 HP
  go_wp2
  go_ret
  exact ⟨by rw [HE.out]; rfl, by rw [HE.out]; exact HD1.out.end⟩
theorem do_any (op : Int) (h : isOpB op = true) (h0 : op ≠ 0) (h30 : op ≠ 30) (h31 : op ≠ 31) : DoOK op := by
  by_cases hp : (10 ≤ op ∧ op ≤ 19) ∨ (22 ≤ op ∧ op ≤ 29)
  · exact doPair op hp
  · simp only [isOpB, Bool.and_eq_true, decide_eq_true_eq] at h
    have : op = 1 ∨ op = 2 ∨ op = 3 ∨ op = 4 ∨ op = 5 ∨ op = 6 ∨ op = 7 ∨ op = 8 ∨ op = 9 ∨ op = 20 ∨ op = 21 ∨ op = 32 ∨ op = 33 ∨ op = 34 ∨ op = 35 ∨ op = 36 := by omega
    rcases this with rfl | rfl | rfl | rfl | rfl | rfl | rfl | rfl | rfl | rfl | rfl | rfl | rfl | rfl | rfl | rfl
    · exact do1
    · exact do2
    · exact do3
    · exact do4
    · exact do5
    · exact do6
    · exact do7
    · exact do8
    · exact do9
    · exact do20
    · exact do21
    · exact do32
    · exact do33
    · exact do34
    · exact do35
    · exact do36

theorem ite_P {α : Type} {P : α → Prop} {c : Prop} [Decidable c] {x y : α} (h1 : c → P x) (h2 : ¬ c → P y) : P (if c then x else y) := by
  split
  · exact h1 ‹_›
  · exact h2 ‹_›
theorem do_at (A : List Int) (R : List C) (op a : Int) (m : M) : (doN A R op a m).1.at_ = m.at_ := by
  unfold doN getN putN tellN pairM
  repeat' (refine ite_P (P := fun r : M × Int => r.1.at_ = m.at_) (fun _ => ?_) (fun _ => ?_))
  all_goals rfl
/-- as many args and reads as the program asks for -/
def Fed (p : Nums) (A : List Int) (R : List C) : Prop := A.length = p.args.toNat ∧ R.length = p.reads.toNat
theorem fit_of {p : Nums} {L : List K} {d : List Int} {A : List Int} {R : List C} {m : M} (hs : Sound p L d) (hg : Good p L d m) (hf : Fed p A R) {i : Nat} (hi : i < L.length) : fitN A R (tick m) (cd L i).1 (cd L i).2 := by
  obtain ⟨_, _, h3⟩ := hs.fits hi
  obtain ⟨l1, l2, l3, l4, _⟩ := (limB_iff p L.length).1 hs.lim
  obtain ⟨f1, f2⟩ := hf
  have hlo : (tick m).lo.length = p.locals.toNat := hg.lo
  generalize cd L i = k at *
  obtain ⟨op, a⟩ := k
  simp only [fitsB, roomN, Bool.or_eq_true, decide_eq_true_eq, Bool.and_eq_true] at h3
  refine ⟨fun h => ?_, fun h => ?_, fun h => ?_⟩
  · simp only at h
    rcases h with rfl | rfl <;> (simp at h3; omega)
  · simp only at h
    subst h
    simp at h3
    omega
  · simp only at h
    subst h
    simp at h3
    omega
theorem Good.takes {p : Nums} {L : List K} {d : List Int} {m : M} (hs : Sound p L d) (hg : Good p L d m) (he : m.ended = false) (hi : m.at_ < L.length) : takesN (cd L m.at_).1 ≤ (m.st.length : Int) := by
  obtain ⟨h1, _⟩ := hg.live he
  have := (hs.way m.at_ hi (by omega)).1
  omega
theorem MSt.codeAt {w : World} {F : Nat → Prop} {B : Nat} {Z : MZ} {L : List K} {A : List Int} {R : List C} {m : M} (x : MSt w F B Z L A R m) (j : Nat) (hj : j < L.length) :
    ∃ g cap, Z.cv = .slice (some ⟨g, 0, none⟩) L.length cap ∧ L.length ≤ cap ∧ w.cell? ⟨g, j * 2, none⟩ = some (.int .i64 (cd L j).1) ∧ w.cell? ⟨g, j * 2 + 1, none⟩ = some (.int .i64 (cd L j).2) := by
  obtain ⟨O, h, x, hF, rfl⟩ := x
  obtain ⟨g, cap, hv, hc⟩ := own_some x.code (by omega)
  have hl := x.code
  rw [hv] at hl
  obtain ⟨e1, e2⟩ := cks_at L j hj
  exact ⟨g, cap, hv, hc, by rw [World.ownsRow.cellAt hl (j * 2) (by omega)]; exact e1, by rw [World.ownsRow.cellAt hl (j * 2 + 1) (by omega)]; exact e2⟩

abbrev StepPost (w : World) (F : Nat → Prop) (B : Nat) (Z : MZ) (L : List K) (A : List Int) (R : List C) (m : M) (e : Ending) (w' : World) : Prop := e = .returned (.bool (!doneB L.length m)) ∧ MSt w' F B Z L A R (stepN L A R m) ∧ Fr F w w'
set_option maxRecDepth 100000 in
set_option maxHeartbeats 1000000 in
theorem step_any (w : World) (F : Nat → Prop) (B : Nat) (Z : MZ) (p : Nums) (L : List K) (d : List Int) (A : List Int) (R : List C) (m : M) (hm : MSt w F B Z L A R m) (hs : Sound p L d) (hg : Good p L d m) (hf : Fed p A R) :
    Calls Tryz.prog 38 #[pm B] w fun e w' => StepPost w F B Z L A R m e w' := by
  have HD0 := done_any w F B Z L A R m hm
  cases hd : doneB L.length m with
  | true =>
    rw [hd] at HD0
    have HE : Hid (stepN L A R m = m) := by show stepN L A R m = m; unfold stepN; rw [if_pos hd]
    clear hm hs hg hf
    go_enter Tryz.func38, Tryz.ntmps38
    go_wp2_with fail
    refine HD0.mono ?_
    rintro e w1 ⟨rfl, hm1, hf1⟩
    have HM : Hid (MSt w1 F B Z L A R m ∧ Fr F w w1) := ⟨hm1, hf1⟩
    have HD : Hid (doneB L.length m = true) := hd
    clear hm1 hf1 HD0 hd
    go_wp2
    go_ret
    exact ⟨by rw [HD.out]; rfl, by rw [HE.out]; exact HM.out.1, HM.out.2⟩
  | false =>
    rw [hd] at HD0
    have hen : m.ended = false := by unfold doneB at hd; simp only [Bool.or_eq_false_iff] at hd; exact hd.1
    have hat : m.at_ < L.length := by
      unfold doneB at hd; simp only [Bool.or_eq_false_iff, decide_eq_false_iff_not] at hd
      have := hg.pl; omega
    have hn256 : L.length ≤ 256 := ((limB_iff p L.length).1 hs.lim).2.2.2.2
    have hst := Good.takes hs hg hen hat
    have hfit := fit_of hs hg hf hat
    obtain ⟨hop, hjmp, _⟩ := hs.fits hat
    have hst32 := hg.st
    have hou := hg.ou
    have hsteps : m.steps ≤ 256 := by
      obtain ⟨_, _, _, h4⟩ := hg.live hen
      have h5 := most_nonneg hs.sane m.at_ (by omega)
      have h6 := most_few L hs.sane L.length (Nat.le_refl _) 0 (by rw [most_length]; omega)
      omega
    have HDn : Hid (doneB L.length m = false) := hd
    have HST : Hid (stepN L A R m = if (cd L m.at_).1 = 0 then { tick m with ended := true } else
      if (cd L m.at_).1 = 30 then { tick m with at_ := (cd L m.at_).2.toNat } else
      if (cd L m.at_).1 = 31 then { (tick m).pop with at_ := if m.top = 0 then (cd L m.at_).2.toNat else m.at_ + 1 } else
      if (doN A R (cd L m.at_).1 (cd L m.at_).2 (tick m)).2 = 0 then { (doN A R (cd L m.at_).1 (cd L m.at_).2 (tick m)).1 with at_ := m.at_ + 1 }
      else failN (doN A R (cd L m.at_).1 (cd L m.at_).2 (tick m)).2 (doN A R (cd L m.at_).1 (cd L m.at_).2 (tick m)).1) := by
      show stepN L A R m = _
      unfold stepN
      rw [if_neg (by rw [hd]; simp)]
    have HAt : Hid (m.at_ < L.length) := hat
    have HO : Hid (isOpB (cd L m.at_).1 = true) := hop
    have HTk : Hid (takesN (cd L m.at_).1 ≤ (m.st.length : Int)) := hst
    have HFt : Hid (fitN A R (tick m) (cd L m.at_).1 (cd L m.at_).2) := hfit
    have HJ : Hid (jumpB (cd L m.at_).1 = true → (m.at_ : Int) < (cd L m.at_).2 ∧ (cd L m.at_).2 ≤ (L.length : Int)) := hjmp
    have HL : Hid (m.st.length ≤ 32 ∧ m.ou.length ≤ 16) := ⟨hst32, hou⟩
    clear hm hs hg hf hd hen hst hfit hop hjmp hst32 hou
    go_enter Tryz.func38, Tryz.ntmps38
    go_wp2_with fail
    refine HD0.mono ?_
    rintro e w1 ⟨rfl, hm1, hf1⟩
    obtain ⟨_, c8, _, _, _⟩ := hm1.cells
    obtain ⟨f8, hm2, hf2⟩ := hm1.put 8 (.int .i64 ((m.steps : Int) + 1)) (tick m) (fun _ => rfl) rfl rfl rfl rfl
    have HM2 : Hid (MSt (w1.setCell ⟨B, 8, none⟩ (.int .i64 ((m.steps : Int) + 1))) F B Z L A R (tick m)) := hm2
    have HF2 : Hid (Fr F w (w1.setCell ⟨B, 8, none⟩ (.int .i64 ((m.steps : Int) + 1)))) := hf1.trans hf2
    obtain ⟨c3, _, _, _, _⟩ := hm2.cells
    obtain ⟨c0, _, _, _, _⟩ := hm2.slices
    obtain ⟨g, cap, hv, hcap, k0, k1⟩ := hm2.codeAt m.at_ HAt.out
    rw [hv] at c0
    have c3' : (w1.setCell ⟨B, 8, none⟩ (.int .i64 ((m.steps : Int) + 1))).cell? ⟨B, 3, none⟩ = some (.int .i64 (m.at_ : Int)) := c3
    clear hm1 hf1 hm2 hf2 HD0 hv c3
    generalize (cd L m.at_).1 = op at *
    generalize (cd L m.at_).2 = a at *
    obtain ⟨n, hn⟩ : ∃ n, n = L.length := ⟨_, rfl⟩
    rw [← hn] at c0 hat hcap hn256 HJ
    have HN : Hid (n = L.length) := hn
    clear hn
    go_upto_region 4 with fail
    clear c8 f8
    generalize w1.setCell ⟨B, 8, none⟩ (.int .i64 ((m.steps : Int) + 1)) = W2 at *
    have y0 := Lib.cell?_alloc_some (.cells #[.int .i64 0, .int .i64 0] 102) c0
    have y3 := Lib.cell?_alloc_some (.cells #[.int .i64 0, .int .i64 0] 102) c3'
    have z0 := Lib.cell?_alloc_some (.cells #[.int .i64 0, .int .i64 0] 102) k0
    have z1 := Lib.cell?_alloc_some (.cells #[.int .i64 0, .int .i64 0] 102) k1
    go_cut [3] (fun s wx => s = .pointer (some ⟨W2.heap.size, 0, none⟩) ∧ wx = (wb W2 op a).drew)
    case first =>
      go_region
      all_goals (go_wp2_with fail; go_meet; exact ⟨rfl, rfl⟩)
    case rest =>
      obtain ⟨rfl, rfl⟩ := hcut
      have HD : Hid (DS W2 (wb W2 op a).drew F B Z L A R a (tick m)) := (DS.start HM2.out op a).drew
      have d0 : (wb W2 op a).drew.cell? ⟨W2.heap.size, 0, none⟩ = some (.int .i64 op) := (Box.new (w := W2) (x := op) (y := a) rfl).1
      have d1 := HD.out.d1
      clear y0 y3 z0 z1 c0 c3' k0 k1
      generalize (wb W2 op a).drew = W3 at *
      generalize W2.heap.size = b at *
      by_cases h0 : op = 0
      · subst h0
        have HE : Hid (stepN L A R m = { tick m with ended := true }) := HST.out.trans (if_pos rfl)
        obtain ⟨_, _, c9, _, _⟩ := HD.out.mst.cells
        obtain ⟨f9, hm4, hf4⟩ := HD.out.mst.put 9 (.bool true) { tick m with ended := true } (fun _ => rfl) rfl rfl rfl rfl
        have HD4 : Hid (DS W2 (W3.setCell ⟨B, 9, none⟩ (.bool true)) F B Z L A R a { tick m with ended := true }) := HD.out.next hm4 hf4
        clear hm4 hf4 HST
        go_wp2
        go_ret
        exact ⟨by rw [HDn.out]; rfl, by rw [HE.out]; exact HD4.out.end.1, HF2.out.trans HD4.out.end.2⟩
      · have e0 : (op == 0) = false := by simpa using h0
        by_cases h30 : op = 30
        · subst h30
          have hj := HJ.out rfl
          obtain ⟨t, rfl⟩ := Int.eq_ofNat_of_zero_le (show 0 ≤ a by omega)
          have HE : Hid (stepN L A R m = { tick m with at_ := t }) := HST.out.trans ((if_neg h0).trans (if_pos rfl))
          obtain ⟨c3, _, _, _, _⟩ := HD.out.mst.cells
          obtain ⟨f3, hm4, hf4⟩ := HD.out.mst.put 3 (.int .i64 (t : Int)) { tick m with at_ := t } (fun _ => rfl) rfl rfl rfl rfl
          have HD4 : Hid (DS W2 (W3.setCell ⟨B, 3, none⟩ (.int .i64 (t : Int))) F B Z L A R t { tick m with at_ := t }) := HD.out.next hm4 hf4
          clear hm4 hf4 HST
          go_wp2
          go_ret
          exact ⟨by rw [HDn.out]; rfl, by rw [HE.out]; exact HD4.out.end.1, HF2.out.trans HD4.out.end.2⟩
        · have e30 : (op == 30) = false := by simpa using h30
          by_cases h31 : op = 31
          · subst h31
            have hj := HJ.out rfl
            obtain ⟨t, rfl⟩ := Int.eq_ofNat_of_zero_le (show 0 ≤ a by omega)
            have HE : Hid (stepN L A R m = { (tick m).pop with at_ := if m.top = 0 then t else m.at_ + 1 }) := HST.out.trans ((if_neg h0).trans ((if_neg h30).trans (if_pos rfl)))
            have hs1 : 0 < (tick m).st.length := by
              have := HTk.out
              simp only [takesN, tkL, Int.toNat, List.getD_cons_zero, List.getD_cons_succ] at this
              show 0 < m.st.length; omega
            have HZ := zero_any W3 _ B Z L A R (tick m) 31 (t : Int) HD.out.mst hs1 (Nat.le_trans HL.out.1 (by omega)) (show m.at_ ≤ 1000 by omega)
            have HV : Hid ((if (tick m).top = 0 then (t : Int) else ((tick m).at_ : Int) + 1) = ((if m.top = 0 then t else m.at_ + 1 : Nat) : Int)) := by
              show (if m.top = 0 then (t : Int) else (m.at_ : Int) + 1) = _
              split <;> simp
            rw [HV.out] at HZ
            generalize (if m.top = 0 then t else m.at_ + 1) = u at *
            clear HST hs1
            go_wp2_with fail
            refine HZ.mono ?_
            rintro e w4 ⟨rfl, hm4, hf4⟩
            obtain ⟨c3, _, _, _, _⟩ := hm4.cells
            obtain ⟨f3, hm5, hf5⟩ := hm4.put 3 (.int .i64 (u : Int)) { (tick m).pop with at_ := u } (fun _ => rfl) rfl rfl rfl rfl
            have HD5 : Hid (DS W2 (w4.setCell ⟨B, 3, none⟩ (.int .i64 (u : Int))) F B Z L A R t { (tick m).pop with at_ := u }) := (HD.out.next hm4 hf4).next hm5 hf5
            clear hm4 hf4 hm5 hf5 HZ
            go_wp2
            go_ret
            exact ⟨by rw [HDn.out]; rfl, by rw [HE.out]; exact HD5.out.end.1, HF2.out.trans HD5.out.end.2⟩
          · have e31 : (op == 31) = false := by simpa using h31
            have HE : Hid (stepN L A R m = if (doN A R op a (tick m)).2 = 0 then { (doN A R op a (tick m)).1 with at_ := m.at_ + 1 } else failN (doN A R op a (tick m)).2 (doN A R op a (tick m)).1) := HST.out.trans ((if_neg h0).trans ((if_neg h30).trans (if_neg h31)))
            have HP := do_any op HO.out h0 h30 h31 W3 _ B Z L A R (tick m) a HD.out.mst HTk.out (Nat.le_trans HL.out.1 (by omega)) (Nat.le_trans HL.out.2 (by omega)) HFt.out
            have HAt2 : Hid ((doN A R op a (tick m)).1.at_ = m.at_) := do_at A R op a (tick m)
            generalize doN A R op a (tick m) = r at *
            obtain ⟨m4, f⟩ := r
            clear HST
            go_wp2_with fail
            refine HP.mono ?_
            rintro e w4 ⟨rfl, hm4, hf4⟩
            have HD4 : Hid (DS W2 w4 F B Z L A R a m4) := HD.out.next hm4 hf4
            clear hm4 hf4 HP
            by_cases hf0 : f = 0
            · subst hf0
              have HE' : Hid (stepN L A R m = { m4 with at_ := m.at_ + 1 }) := HE.out.trans (if_pos rfl)
              obtain ⟨c3, _, _, _, _⟩ := HD4.out.mst.cells
              rw [HAt2.out] at c3
              obtain ⟨f3, hm5, hf5⟩ := HD4.out.mst.put 3 (.int .i64 ((m.at_ : Int) + 1)) { m4 with at_ := m.at_ + 1 } (fun _ => rfl) rfl rfl rfl rfl
              have HD5 : Hid (DS W2 (w4.setCell ⟨B, 3, none⟩ (.int .i64 ((m.at_ : Int) + 1))) F B Z L A R a { m4 with at_ := m.at_ + 1 }) := HD4.out.next hm5 hf5
              clear hm5 hf5 HE
              go_wp2
              go_ret
              exact ⟨by rw [HDn.out]; rfl, by rw [HE'.out]; exact HD5.out.end.1, HF2.out.trans HD5.out.end.2⟩
            · have hf0' : (f != 0) = true := by simpa using hf0
              have HE' : Hid (stepN L A R m = failN f m4) := HE.out.trans (if_neg hf0)
              clear HE
              go_wp2_with fail
              refine (fail_any w4 _ B Z L A R m4 f HD4.out.mst).mono ?_
              rintro e w5 ⟨rfl, hm5, hf5⟩
              have HD5 : Hid (DS W2 w5 F B Z L A R a (failN f m4)) := HD4.out.next hm5 hf5
              clear hm5 hf5
              go_wp2
              go_ret
              exact ⟨by rw [HDn.out]; rfl, by rw [HE'.out]; exact HD5.out.end.1, HF2.out.trans HD5.out.end.2⟩
end Go.Proofs.YtcaibgbhebldmaaGreat
