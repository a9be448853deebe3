/-
  SchedMeets: THE LAW.
-/
import Derived.Test.YteobmijfbjgccabLawMeetsH
namespace Go.Proofs.Yteobmijfbjgccab
open Go.RowKit Go.Sort

set_option maxRecDepth 100000 in
set_option maxHeartbeats 8000000 in
theorem law_meets (w : World) (ao po : Option Addr) (n ca m cp : Nat) (L : List Mk) (turn : Int) (ps : List Int) (most : Int) (h : MksAt w ao L) (hn : n = L.length) (hnb : n ≤ 20000000000000) (hp : WAt w po (i64s ps)) (hm : m = ps.length) (hp0 : po = none → cp = 0) (hb : m * 8 ≤ 140737488355328) :
    Calls Try.prog 3 #[.slice ao n ca, .int .i64 turn, .slice po m cp, .int .i64 most] w fun e w' => e = .returned (.bool true) ∧ RowKit.Below w.heap.size w w' := by
  have HL := hidW h
  have HN := hidW hn
  have HP := hidW hp
  have HM := hidW hm
  have HP0 := hidW hp0
  have hmb : m ≤ 20000000000000 := by omega
  have HPt := hidW (parts_any w ao none n 0 ca 0 L [] h (OqsAt.nil _ _) hn rfl hnb (by omega))
  clear h hn hp hm hp0
  go_enter Try.func3, Try.ntmps3
  go_wp2_with fail
  refine HPt.out.mono ?_
  rintro e wx ⟨r, rfl, hwx, hr⟩
  have hwx' := hwx.symm
  subst hwx'
  have HPP := hidW hr
  clear hwx HPt hr
  by_cases hr0 : r < 0
  · go_wp2
    go_ret
    exact ⟨rfl, Below.refl _ _⟩
  · have hpts : ptsM L ≤ 100000 := by have := HPP.out hr0; omega
    have hn1 : n ≤ 100000 := by have := ptsM_len L; have := HN.out; omega
    have HPS := hidW hpts
    clear hpts HPP
    go_wp2_with fail
    refine (works_any w).mono ?_
    rintro e w1 ⟨rfl, hb1⟩
    have HB1 := hidW hb1
    clear hb1
    have HLi := hidW (line_any w1 ao n ca L turn (HL.out.below HB1.out) HN.out HPS.out)
    go_wp2_with fail
    refine HLi.out.mono ?_
    intro e w2 hl
    obtain ⟨lo, lc, cb, X, lb, bo, tc, rfl, hrs, _⟩ := hl.rs2
    rw [← HN.out] at hrs
    have HR0 := hidW hrs
    rw [← HN.out]
    have HB2 : Hid (RowKit.Below w.heap.size w w2) := HB1.out.trans (hrs.bl.mono HB1.out.size)
    clear hl hrs HLi
    have HLi2 := hidW (line_any w2 ao n ca L turn (HL.out.below HB2.out) HN.out HPS.out)
    go_wp2_with fail
    refine HLi2.out.mono ?_
    intro e w3 hl
    obtain ⟨lo2, lc2, cb2, X2, lb2, bo2, tc2, rfl, hrs2, hof2⟩ := hl.rs2
    rw [← HN.out] at hrs2
    rw [← HN.out]
    -- the two, apart
    have HO1 : Hid (∀ j, OfZ lo X lb bo j → j < w2.heap.size) := fun j hj => HR0.out.ofLt j hj
    have HO2 : Hid (∀ j, OfZ lo2 X2 lb2 bo2 j → w2.heap.size ≤ j) := hof2
    have HA1 : Hid (∀ j, OfZ lo X lb bo j → ¬ (X2 j ∨ j = lb2)) := fun j hj hx => by
      have := HO1.out j hj
      have := HO2.out j (by rcases hx with hx | hx; exact .inl hx; exact .inr (.inl hx))
      omega
    have HA2 : Hid (∀ j, OfZ lo2 X2 lb2 bo2 j → ¬ (X j ∨ j = lb)) := fun j hj hx => by
      have := HO2.out j hj
      have := HO1.out j (by rcases hx with hx | hx; exact .inl hx; exact .inr (.inl hx))
      omega
    have HR1 := hidW (HR0.out.kept hrs2.bl)
    have HR2 := hidW (hrs2.rebase HR0.out.bl)
    clear hl hrs2 hof2 HLi2 HR0 HO1 HO2
    obtain ⟨B, hB⟩ : ∃ B, B = blM L := ⟨_, rfl⟩
    obtain ⟨ts, hts⟩ : ∃ ts, ts = tsM n turn := ⟨_, rfl⟩
    obtain ⟨ls, hls⟩ : ∃ ls, ls = lsM L := ⟨_, rfl⟩
    rw [← hB, ← hts, ← hls] at HR1 HR2
    clear hB hts hls
    have HPl := hidW (play_any HR1.out.sl po m cp ps HM.out (HP.out.below (HB1.out.trans (HR1.out.bl.mono HB1.out.size))) HP0.out hb)
    go_wp2_with fail
    refine HPl.out.mono ?_
    rintro e w4 ⟨rfl, h1, h2⟩
    have HQ1 := hidW (HR1.out.go h1 h2)
    have HQ2 := hidW (HR2.out.other h2 HA2.out HR1.out.xn)
    clear h1 h2 HR1 HR2 HPl
    rw [Nat.zero_add] at HQ1
    obtain ⟨K1, hK1⟩ : ∃ K1, K1 = plK B n ts ps ls := ⟨_, rfl⟩
    obtain ⟨l1, hl1⟩ : ∃ l1, l1 = plL B n ts ps ls := ⟨_, rfl⟩
    rw [← hK1, ← hl1] at HQ1
    rw [← hK1]
    have HK1 := hidW hK1
    have HL1 := hidW hl1
    have hK1b : K1 ≤ 1000000000000 := by have := HQ1.out.sl.pot; omega
    clear hK1 hl1
    go_wp2_with fail
    go_loopw [14, 15] (fun x y wr => ∃ (i t : Nat) (lr : Nat → Nat), i ≤ m ∧ y = .int .i64 (i : Int) ∧ x = .int .i64 (t : Int) ∧ t ≤ i ∧ Hid (RS w1 n B ts lo lc cb X lb bo tc wr l1 K1) ∧ Hid (RS w1 n B ts lo2 lc2 cb2 X2 lb2 bo2 tc2 wr lr t) ∧ Hid (plL B n ts (ps.drop i) lr = l1 ∧ t + plK B n ts (ps.drop i) lr = K1)) (fun _ y _ => m - (intOf y).toNat)
    case atStart => exact ⟨0, 0, ls, Nat.zero_le _, rfl, rfl, Nat.zero_le _, HQ1, HQ2, by rw [List.drop_zero]; exact HL1.out.symm, by rw [Nat.zero_add, List.drop_zero]; exact HK1.out.symm⟩
    case round =>
      clear HQ1 HQ2 HK1 HL1
      obtain ⟨i, t, lr, hi, rfl, rfl, hti, HR1, HR2, HE⟩ := hrel
      by_cases hlt : i < m
      · have hil : i < ps.length := by have := HM.out; omega
        obtain ⟨g, off, rfl, e1⟩ := (HP.out.below (HB1.out.trans (HR1.out.bl.mono HB1.out.size))).int i hil
        have HD : Hid (ps.drop i = ps[i] :: ps.drop (i + 1)) := List.drop_eq_getElem_cons hil
        generalize ps[i] = x at *
        have HT := hidW (take_any HR2.out.sl x)
        have HE2 : Hid (plL B n ts (ps.drop (i + 1)) (tkL lr ts (tkP lr B n ts x)) = l1 ∧ (t + tkK (tkP lr B n ts x)) + plK B n ts (ps.drop (i + 1)) (tkL lr ts (tkP lr B n ts x)) = K1) := by
          obtain ⟨h4, h5⟩ := HE.out
          rw [HD.out] at h4 h5
          simp only [plL, plK] at h4 h5
          exact ⟨h4, by omega⟩
        have HF : Hid (∀ e w', TkPost wr n cb2 lr B X2 lb2 bo2 n tc2 ts t (tkP lr B n ts x) e w' → e = .returned (.int .i64 (tkA (tkP lr B n ts x))) ∧ Hid (RS w1 n B ts lo lc cb X lb bo tc w' l1 K1) ∧ Hid (RS w1 n B ts lo2 lc2 cb2 X2 lb2 bo2 tc2 w' (tkL lr ts (tkP lr B n ts x)) (t + tkK (tkP lr B n ts x)))) := by
          rintro e w' ⟨h1, h2, h3⟩
          exact ⟨h1, HR1.out.other h3 HA1.out HR2.out.xn, HR2.out.go h2 h3⟩
        clear HR1 HR2 HE HD
        generalize tkL lr ts (tkP lr B n ts x) = lr' at *
        cases hp : tkP lr B n ts x with
        | none =>
          rw [hp] at HF HT HE2
          go_wp2_with fail
          refine HT.out.mono ?_
          intro e w5 hh
          obtain ⟨rfl, HQ1, HQ2⟩ := HF.out e w5 hh
          simp only [tkA, tkK, Nat.add_zero] at HQ2 HE2 ⊢
          clear hh HF HT hp
          go_wp2
          go_roundw
          case rel => exact ⟨i + 1, t, lr', by omega, by go_num, rfl, by omega, HQ1, HQ2, HE2⟩
          case measure => simp [intOf]; omega
        | some p =>
          rw [hp] at HF HT HE2
          have hp0 : (0 : Int) ≤ (p : Int) := by omega
          go_wp2_with fail
          refine HT.out.mono ?_
          intro e w5 hh
          obtain ⟨rfl, HQ1, HQ2⟩ := HF.out e w5 hh
          simp only [tkA, tkK] at HQ2 HE2 ⊢
          clear hh HF HT hp
          go_wp2
          go_roundw
          case rel => exact ⟨i + 1, t + 1, lr', by omega, by go_num, by go_num, by omega, HQ1, HQ2, HE2⟩
          case measure => simp [intOf]; omega
      · obtain rfl : i = m := by omega
        have HE2 : Hid (lr = l1 ∧ t = K1) := by
          obtain ⟨h4, h5⟩ := HE.out
          rw [HM.out, List.drop_length] at h4 h5
          simp only [plL, plK, Nat.add_zero] at h4 h5
          exact ⟨h4, h5⟩
        obtain ⟨hlr, htk⟩ := HE2.out
        subst hlr htk
        clear HE HE2
        have HSt := hidW (steps_any HR1.out.sl)
        go_wp2_with fail
        refine HSt.out.mono ?_
        rintro e wx ⟨rfl, hwx⟩
        have hwx' := hwx.symm
        subst hwx'
        clear hwx
        have HDr := hidW (drain_any HR1.out.sl most)
        clear HSt
        go_wp2_with fail
        refine HDr.out.mono ?_
        rintro e w5 ⟨rfl, h1, h2⟩
        have HQ1 := hidW (HR1.out.go h1 h2)
        have HQ2 := hidW (HR2.out.other h2 HA2.out HR1.out.xn)
        clear h1 h2 HDr HR1 HR2
        obtain ⟨D, hD⟩ : ∃ D, D = drK B n ts most.toNat lr := ⟨_, rfl⟩
        obtain ⟨l2, hl2⟩ : ∃ l2, l2 = drL B n ts most.toNat lr := ⟨_, rfl⟩
        rw [← hD, ← hl2] at HQ1
        rw [← hD]
        have HK1 := hidW hD
        have HL1 := hidW hl2
        have hDb : D ≤ 1000000000000 := by have := HQ1.out.sl.pot; omega
        clear hD hl2
        go_wp2_with fail
        go_loopw [17] (fun x wr => ∃ (d : Nat) (lq : Nat → Nat), x = .int .i64 (d : Int) ∧ d ≤ most.toNat ∧ d ≤ D ∧ Hid (RS w1 n B ts lo lc cb X lb bo tc wr l2 (t + D)) ∧ Hid (RS w1 n B ts lo2 lc2 cb2 X2 lb2 bo2 tc2 wr lq (t + d)) ∧ Hid (drL B n ts (most.toNat - d) lq = l2 ∧ d + drK B n ts (most.toNat - d) lq = D)) (fun x _ => most.toNat - (intOf x).toNat)
        case atStart => exact ⟨0, lr, rfl, Nat.zero_le _, Nat.zero_le _, HQ1, HQ2, HL1.out.symm, by rw [Nat.zero_add]; exact HK1.out.symm⟩
        case round =>
          clear HQ1 HQ2 HK1 HL1
          obtain ⟨d, lq, rfl, hdm, hdD, HR1, HR2, HE⟩ := hrel
          obtain ⟨V, hV⟩ : ∃ V, V = wr := ⟨_, rfl⟩
          subst hV
          have HT := hidW (take_any HR2.out.sl 0)
          have HF : Hid (∀ e w', TkPost V n cb2 lq B X2 lb2 bo2 n tc2 ts (t + d) (tkP lq B n ts 0) e w' → e = .returned (.int .i64 (tkA (tkP lq B n ts 0))) ∧ Hid (RS w1 n B ts lo lc cb X lb bo tc w' l2 (t + D)) ∧ Hid (RS w1 n B ts lo2 lc2 cb2 X2 lb2 bo2 tc2 w' (tkL lq ts (tkP lq B n ts 0)) (t + d + tkK (tkP lq B n ts 0)))) := by
            rintro e w' ⟨h1, h2, h3⟩
            exact ⟨h1, HR1.out.other h3 HA1.out HR2.out.xn, HR2.out.go h2 h3⟩
          by_cases hlt2 : (d : Int) < most
          · cases hp : tkP lq B n ts 0 with
            | some p =>
              have HE2 : Hid (d + 1 ≤ D ∧ drL B n ts (most.toNat - (d + 1)) (decZ lq (ts p).toNat) = l2 ∧ (d + 1) + drK B n ts (most.toNat - (d + 1)) (decZ lq (ts p).toNat) = D) := by
                obtain ⟨h4, h5⟩ := HE.out
                obtain ⟨h6, h7⟩ := drL_some (B := B) (nt := n) (ts := ts) (most.toNat - (d + 1)) hp
                rw [show most.toNat - (d + 1) + 1 = most.toNat - d by omega] at h6 h7
                rw [h6] at h4
                rw [h7] at h5
                exact ⟨by omega, h4, by omega⟩
              rw [hp] at HF HT
              have hp0 : (0 : Int) ≤ (p : Int) := by omega
              have hd1 := HE2.out.1
              clear HR1 HR2 HE hp
              go_wp2_with fail
              refine HT.out.mono ?_
              intro e w6 hh
              obtain ⟨rfl, HQ1, HQ2⟩ := HF.out e w6 hh
              simp only [tkA, tkK, tkL] at HQ2 ⊢
              clear hh HF HT
              rw [Nat.add_assoc] at HQ2
              go_wp2
              go_roundw
              case rel => exact ⟨d + 1, decZ lq (ts p).toNat, by go_num, by omega, by omega, HQ1, HQ2, HE2.out.2⟩
              case measure => simp [intOf]; omega
            | none =>
              have HE2 : Hid (lq = l2 ∧ d = D) := by
                obtain ⟨h4, h5⟩ := HE.out
                obtain ⟨h6, h7⟩ := drL_none (B := B) (nt := n) (ts := ts) (most.toNat - d) hp
                rw [h6] at h4
                rw [h7] at h5
                exact ⟨h4, by omega⟩
              rw [hp] at HF HT
              obtain ⟨hlr, htk⟩ := HE2.out
              subst hlr htk
              clear HR1 HR2 HE hp HE2
              go_wp2_with fail
              refine HT.out.mono ?_
              intro e w6 hh
              obtain ⟨rfl, HQ1, HQ2⟩ := HF.out e w6 hh
              simp only [tkA, tkK, tkL, Nat.add_zero] at HQ2 ⊢
              clear hh HF HT
              have HS1 := hidW (steps_any HQ1.out.sl)
              have HS2 := hidW (steps_any HQ2.out.sl)
              go_wp2_with fail
              refine HS1.out.mono ?_
              rintro e wx ⟨rfl, hwx⟩
              have hwx' := hwx.symm
              subst hwx'
              clear hwx
              go_wp2_with fail
              refine HS2.out.mono ?_
              rintro e wx ⟨rfl, hwx⟩
              have hwx' := hwx.symm
              subst hwx'
              clear hwx
              clear HS1 HS2
              have HY1 := hidW (lready_any HQ1.out.sl)
              have HY2 := fun (W : World) (hb : RowKit.Below w6.heap.size w6 W) => hidW (lready_any (HQ2.out.kept hb).sl)
              have hPl : (plcZ lq B n ts).length ≤ 100000 := Nat.le_trans (plcZ_len _ _ _ _) hn1
              generalize plcZ lq B n ts = P at *
              go_wp2_with fail
              refine HY1.out.mono ?_
              rintro e w7 ⟨ro, rc, rfl, ho, hb7⟩
              have HY3 := HY2 w7 hb7
              have HO7 := hidW ho.at_
              have HU1 := hidW (HQ1.out.kept hb7)
              have HU2 := hidW (HQ2.out.kept hb7)
              clear ho hb7 HY1 HY2 HQ1 HQ2
              go_wp2_with fail
              refine HY3.out.mono ?_
              rintro e w8 ⟨ro2, rc2, rfl, ho2, hb8⟩
              have HC := hidW (sameIntsZ w8 ro ro2 P.length rc rc2 (P.map Int.ofNat) (HO7.out.below hb8) ho2.at_ (by simp) (by omega))
              have HV1 := hidW (HU1.out.kept hb8)
              have HV2 := hidW (HU2.out.kept hb8)
              clear ho2 hb8 HO7 HU1 HU2 HY3
              go_wp2_with fail
              refine HC.out.mono ?_
              rintro e w9 ⟨rfl, q9, hw9⟩
              have HX1 : Hid (RS w1 n B ts lo lc cb X lb bo tc w9 lq (t + d)) := by rw [hw9]; exact HV1.out.kept (below_drewN (Below.refl _ _) q9)
              have HX2 : Hid (RS w1 n B ts lo2 lc2 cb2 X2 lb2 bo2 tc2 w9 lq (t + d)) := by rw [hw9]; exact HV2.out.kept (below_drewN (Below.refl _ _) q9)
              clear hw9 HV1 HV2 HC
              go_wp2_with fail
              go_loopw [18] (fun x wr => ∃ u q : Nat, u ≤ n ∧ x = .int .i64 (u : Int) ∧ wr = w9.drewN q) (fun x _ => n - (intOf x).toNat)
              case atStart => exact ⟨0, 0, Nat.zero_le _, rfl, rfl⟩
              case round =>
                obtain ⟨u, q, hu, rfl, hwq⟩ := hrel
                have HWq := hidW hwq
                have HZ1 : Hid (RS w1 n B ts lo lc cb X lb bo tc wr lq (t + d)) := by rw [hwq]; exact HX1.out.kept (below_drewN (Below.refl _ _) q)
                have HZ2 : Hid (RS w1 n B ts lo2 lc2 cb2 X2 lb2 bo2 tc2 wr lq (t + d)) := by rw [hwq]; exact HX2.out.kept (below_drewN (Below.refl _ _) q)
                clear hwq HX1 HX2
                by_cases hltu : u < n
                · obtain ⟨b5, off5, rfl, e5⟩ := HZ1.out.ow.at_ u (ptZ (cb u)) (by simp [hltu])
                  obtain ⟨b6, off6, rfl, e6⟩ := HZ2.out.ow.at_ u (ptZ (cb2 u)) (by simp [hltu])
                  have HLf1 := hidW (fun (p : Nat) => left_any (HZ1.out.sl.ci.drewN p) u hltu)
                  have HLf2 := hidW (fun (p : Nat) => left_any (HZ2.out.sl.ci.drewN p) u hltu)
                  have hlu := HZ1.out.sl.ci.le u hltu
                  generalize lq u = y at *
                  generalize cb u = p1 at *
                  generalize cb2 u = p2 at *
                  go_wp2_with fail
                  go_quiet (first | (go_at_call 13; exact Calls.quiet_of_same (HLf1.out _)) | (go_at_call 13; exact Calls.quiet_of_same (HLf2.out _)))
                  go_wp2_with fail
                  go_roundw
                  case rel => exact ⟨u + 1, q + nq, by omega, by go_num, by rw [HWq.out, World.drewN_drewN]⟩
                  case measure => simp [intOf]; omega
                · obtain rfl : u = n := by omega
                  have HBf : Hid (RowKit.Below w.heap.size w wr) := HB1.out.trans (HZ1.out.bl.mono HB1.out.size)
                  go_wp2
                  go_ret
                  exact ⟨rfl, HBf.out⟩
          · have HE2 : Hid (lq = l2 ∧ d = D) := by
              obtain ⟨h4, h5⟩ := HE.out
              rw [show most.toNat - d = 0 by omega] at h4 h5
              exact ⟨h4, by simpa [drK] using h5⟩
            obtain ⟨hlr, htk⟩ := HE2.out
            subst hlr htk
            clear HE HE2 HF HT
            have HQ1 := HR1
            have HQ2 := HR2
            generalize V = w6 at *
            have HS1 := hidW (steps_any HQ1.out.sl)
            have HS2 := hidW (steps_any HQ2.out.sl)
            go_wp2_with fail
            refine HS1.out.mono ?_
            rintro e wx ⟨rfl, hwx⟩
            have hwx' := hwx.symm
            subst hwx'
            clear hwx
            go_wp2_with fail
            refine HS2.out.mono ?_
            rintro e wx ⟨rfl, hwx⟩
            have hwx' := hwx.symm
            subst hwx'
            clear hwx
            clear HS1 HS2
            have HY1 := hidW (lready_any HQ1.out.sl)
            have HY2 := fun (W : World) (hb : RowKit.Below w6.heap.size w6 W) => hidW (lready_any (HQ2.out.kept hb).sl)
            have hPl : (plcZ lq B n ts).length ≤ 100000 := Nat.le_trans (plcZ_len _ _ _ _) hn1
            generalize plcZ lq B n ts = P at *
            go_wp2_with fail
            refine HY1.out.mono ?_
            rintro e w7 ⟨ro, rc, rfl, ho, hb7⟩
            have HY3 := HY2 w7 hb7
            have HO7 := hidW ho.at_
            have HU1 := hidW (HQ1.out.kept hb7)
            have HU2 := hidW (HQ2.out.kept hb7)
            clear ho hb7 HY1 HY2 HQ1 HQ2
            go_wp2_with fail
            refine HY3.out.mono ?_
            rintro e w8 ⟨ro2, rc2, rfl, ho2, hb8⟩
            have HC := hidW (sameIntsZ w8 ro ro2 P.length rc rc2 (P.map Int.ofNat) (HO7.out.below hb8) ho2.at_ (by simp) (by omega))
            have HV1 := hidW (HU1.out.kept hb8)
            have HV2 := hidW (HU2.out.kept hb8)
            clear ho2 hb8 HO7 HU1 HU2 HY3
            go_wp2_with fail
            refine HC.out.mono ?_
            rintro e w9 ⟨rfl, q9, hw9⟩
            have HX1 : Hid (RS w1 n B ts lo lc cb X lb bo tc w9 lq (t + d)) := by rw [hw9]; exact HV1.out.kept (below_drewN (Below.refl _ _) q9)
            have HX2 : Hid (RS w1 n B ts lo2 lc2 cb2 X2 lb2 bo2 tc2 w9 lq (t + d)) := by rw [hw9]; exact HV2.out.kept (below_drewN (Below.refl _ _) q9)
            clear hw9 HV1 HV2 HC
            go_wp2_with fail
            go_loopw [18] (fun x wr => ∃ u q : Nat, u ≤ n ∧ x = .int .i64 (u : Int) ∧ wr = w9.drewN q) (fun x _ => n - (intOf x).toNat)
            case atStart => exact ⟨0, 0, Nat.zero_le _, rfl, rfl⟩
            case round =>
              obtain ⟨u, q, hu, rfl, hwq⟩ := hrel
              have HWq := hidW hwq
              have HZ1 : Hid (RS w1 n B ts lo lc cb X lb bo tc wr lq (t + d)) := by rw [hwq]; exact HX1.out.kept (below_drewN (Below.refl _ _) q)
              have HZ2 : Hid (RS w1 n B ts lo2 lc2 cb2 X2 lb2 bo2 tc2 wr lq (t + d)) := by rw [hwq]; exact HX2.out.kept (below_drewN (Below.refl _ _) q)
              clear hwq HX1 HX2
              by_cases hltu : u < n
              · obtain ⟨b5, off5, rfl, e5⟩ := HZ1.out.ow.at_ u (ptZ (cb u)) (by simp [hltu])
                obtain ⟨b6, off6, rfl, e6⟩ := HZ2.out.ow.at_ u (ptZ (cb2 u)) (by simp [hltu])
                have HLf1 := hidW (fun (p : Nat) => left_any (HZ1.out.sl.ci.drewN p) u hltu)
                have HLf2 := hidW (fun (p : Nat) => left_any (HZ2.out.sl.ci.drewN p) u hltu)
                have hlu := HZ1.out.sl.ci.le u hltu
                generalize lq u = y at *
                generalize cb u = p1 at *
                generalize cb2 u = p2 at *
                go_wp2_with fail
                go_quiet (first | (go_at_call 13; exact Calls.quiet_of_same (HLf1.out _)) | (go_at_call 13; exact Calls.quiet_of_same (HLf2.out _)))
                go_wp2_with fail
                go_roundw
                case rel => exact ⟨u + 1, q + nq, by omega, by go_num, by rw [HWq.out, World.drewN_drewN]⟩
                case measure => simp [intOf]; omega
              · obtain rfl : u = n := by omega
                have HBf : Hid (RowKit.Below w.heap.size w wr) := HB1.out.trans (HZ1.out.bl.mono HB1.out.size)
                go_wp2
                go_ret
                exact ⟨rfl, HBf.out⟩
end Go.Proofs.Yteobmijfbjgccab
