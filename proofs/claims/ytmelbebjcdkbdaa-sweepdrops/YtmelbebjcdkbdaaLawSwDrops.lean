/-
  SweepDrops: THE LAW.
-/
import Derived.Test.YtmelbebjcdkbdaaWLaw1
import Derived.Deep.RegionHeld3
namespace Go.Proofs.Ytmelbebjcdkbdaa
open Go.RowKit Go.Sort

def v9 : V5 := ⟨-9, 0, false, false, 0⟩
set_option maxRecDepth 100000 in
set_option maxHeartbeats 8000000 in
theorem law_swdrops (w : World) (ao po : Option Addr) (n ca m cp : Nat) (L : List V5) (fl : Int) (ps : List Int) (h : WAt w ao (v5s L)) (hn : n = L.length) (h0 : ao = none → ca = 0) (hp : WAt w po (i64s ps)) (hm : m = ps.length) (hp0 : po = none → cp = 0) (hb : n * 40 ≤ 140737488351232) (hbm : m * 8 ≤ 140737488351232) :
    Calls Try.prog 3 #[.slice ao n ca, .int .i64 fl, .slice po m cp] w fun e w' => e = .returned (.bool true) ∧ Below w.heap.size w w' := by
  have HL := hidW h
  have HN := hidW hn
  have HP := hidW hp
  have HM := hidW hm
  have HA1 := hidW (app1W (TS := 22) (TE := 27) Try.underlying22 infoWV rfl (by decide) w ao n ca (v5s L) (by rw [v5s_len, hn]) h h0 (v5s_one L) (by unfold maxLen; omega) (by omega))
  have HA2 := fun (w1 : World) (v1 : Value) (hR : RowW w w1 27 5 v1 n (v5s L)) => hidW (app2W (TS := 22) (TE := 27) Try.underlying22 infoWV rfl (by decide) w w1 v1 n (v5s L) (v5c v9) hR rfl (by intro u hu; simp [v5c, v9] at hu; rcases hu with rfl | rfl | rfl | rfl | rfl <;> rfl) (by unfold maxLen; omega) (by omega))
  have HI1 := fun (W : World) (hB : Below w.heap.size w W) => hidW (app1W (TS := 23) (TE := 3) Try.underlying23 infoWI rfl (by decide) W po m cp (i64s ps) (by simp [i64s, hm]) (hp.below hB) hp0 (i64s_one ps) (by unfold maxLen; omega) (by omega))
  have HI2 := fun (W w1 : World) (v1 : Value) (hR : RowW W w1 3 1 v1 m (i64s ps)) => hidW (app2W (TS := 23) (TE := 3) Try.underlying23 infoWI rfl (by decide) W w1 v1 m (i64s ps) [.int .i64 (-8)] hR rfl (by intro u hu; simp at hu; subst hu; rfl) (by unfold maxLen; omega) (by omega))
  clear h hn h0 hp hm hp0
  obtain ⟨n1, hn1⟩ : ∃ n1, n1 = n + 1 := ⟨_, rfl⟩
  obtain ⟨m1, hm1⟩ : ∃ m1, m1 = m + 1 := ⟨_, rfl⟩
  go_enter Try.func3, Try.ntmps3
  go_upto_region 2 with (first
    | (at_builtin; refine wpL_appW rfl _ _ 22 rfl (.slice (some ⟨w.heap.size, 0, none⟩) 0 0) (.slice ao n ca) rfl rfl HA1.out ?_; rintro v1 w1 hr1; have HR1 := hidW hr1; obtain ⟨⟨g1, c1, rfl, _⟩, _⟩ := hr1)
    | (at_builtin; refine wpL_appW rfl _ _ 22 rfl (.slice (some ⟨g1, 0, none⟩) n c1) (.slice (some ⟨w1.heap.size, 0, none⟩) 1 1) rfl rfl (HA2 w1 _ HR1.out).out ?_; rintro v2 w2 hr2; have HR2 := hidW hr2; obtain ⟨⟨g2, c2, rfl, _, _, hc2⟩, _, hb2⟩ := hr2; have HB2 := hidW hb2; clear hb2))
  clear HA1 HA2 HR1
  have HI1' := HI1 w2 HB2.out
  go_upto_region 3 with (first
    | (at_builtin; refine wpL_appW rfl _ _ 23 rfl (.slice (some ⟨w2.heap.size, 0, none⟩) 0 0) (.slice po m cp) rfl rfl HI1'.out ?_; rintro v3 w3 hr3; have HR3 := hidW hr3; obtain ⟨⟨g3, c3, rfl, _⟩, _⟩ := hr3)
    | (at_builtin; refine wpL_appW rfl _ _ 23 rfl (.slice (some ⟨g3, 0, none⟩) m c3) (.slice (some ⟨w3.heap.size, 0, none⟩) 1 1) rfl rfl (HI2 w2 w3 _ HR3.out).out ?_; rintro v4 w4 hr4; have HR4 := hidW hr4; obtain ⟨⟨g4, c4, rfl, hg4, hl4, hc4⟩, _, hb4⟩ := hr4; have HB4 := hidW hb4; clear hb4))
  clear HI1 HI2 HI1' HR3
  -- the copies, and what was handed in
  have HB04 : Hid (Below w.heap.size w w4) := HB2.out.trans (HB4.out.mono HB2.out.size)
  have HLc : Hid (WAt w4 (some ⟨g2, 0, none⟩) (v5s L ++ v5c v9)) := HR2.out.at_.below HB4.out
  have HPc : Hid (WAt w4 (some ⟨g4, 0, none⟩) (i64s ps ++ [.int .i64 (-8)])) := HR4.out.at_
  have HLw : Hid (WAt w4 ao (v5s L)) := HL.out.below HB04.out
  have HPw : Hid (WAt w4 po (i64s ps)) := HP.out.below HB04.out
  rw [← hn1, ← hm1]
  clear HL HP HR2 HR4 HB2 HB4 hg4 hl4
  have HRd := hidW (rdrops_anyW w4 ao po n ca m cp L fl ps HLw.out HN.out HPw.out HM.out (by omega) (by omega))
  have HDr : ∀ (W : World) (hB : Below w4.heap.size w4 W), Hid (Calls Try.prog 5 #[.slice (some ⟨g2, 0, none⟩) n c2, .int .i64 fl, .slice (some ⟨g4, 0, none⟩) m c4] W fun e w' => ∃ g, e = .returned (.slice (some ⟨g, 0, none⟩) n n) ∧ W.heap.size ≤ g ∧ WB w' g (dropsW (L.map V5.b) fl ps) ∧ Below W.heap.size W w') := fun (W : World) (hB : Below w4.heap.size w4 W) => hidW (drops_anyW W (some ⟨g2, 0, none⟩) (some ⟨g4, 0, none⟩) n c2 m c4 L fl ps (HLc.out.below hB).take HN.out (HPc.out.below hB).take HM.out (by omega) (by omega))
  have hnc : (n : Int) ≤ (c2 : Int) := by omega
  have hmc : (m : Int) ≤ (c4 : Int) := by omega
  have hn1' : (n : Int) < (n1 : Int) := by omega
  have hm1' : (m : Int) < (m1 : Int) := by omega
  have HN1 := hidW hn1
  have HM1 := hidW hm1
  clear hn1 hm1
  obtain ⟨ds, hds⟩ : ∃ ds, ds = dropsW (L.map V5.b) fl ps := ⟨_, rfl⟩
  have HDl : Hid (n = ds.length) := by show _ = _; rw [hds, dropsW_len, List.length_map]; exact HN.out
  have HDS := hidW hds
  clear hds
  go_upto_region 4 with (go_at_call 4; refine HRd.out.mono ?_; rintro e w5 ⟨gw, rfl, hgw, hw5, hb5⟩)
  have HW5 : Hid (WB w5 gw ds) := by rw [HDS.out]; exact hw5
  have HB5 := hidW hb5
  have HG5 : Hid (w4.heap.size ≤ gw ∧ gw < w5.heap.size) := ⟨hgw, hw5.lt⟩
  clear hw5 hb5 hgw HRd
  have HD5 : Hid (Below w4.heap.size w4 w5.drew) := ⟨HB5.out.os, HB5.out.tape, HB5.out.output, HB5.out.size, HB5.out.block⟩
  have HDr5 := HDr w5.drew HD5.out
  go_cut [10] (fun x wx => ∃ ga, x = .slice (some ⟨ga, 0, none⟩) n n ∧ Hid (w5.heap.size ≤ ga ∧ WB wx ga ds ∧ Below w5.heap.size w5 wx))
  case first =>
    go_region_held3 (fun w' => True) (trivial) (first | (go_at_call 5; with_reducible refine HDr5.out.mono ?_; rintro e w6 ⟨ga, rfl, hga, hw6, hb6⟩; have HX6 := hx6W HDS.out hga hw6 hb6; clear hga hw6 hb6))
    all_goals (go_wp2_with fail; go_meet; exact ⟨ga, rfl, HX6⟩)
  case rest =>
    obtain ⟨ga, rfl, HX⟩ := hcut
    have HGa : Hid (w5.heap.size ≤ ga ∧ ga < wc.heap.size) := ⟨HX.out.1, HX.out.2.1.lt⟩
    have HWa : Hid (WB wc ga ds) := HX.out.2.1
    have HBa : Hid (Below w5.heap.size w5 wc) := HX.out.2.2
    clear HX HDr5 HD5
    generalize wc = w6 at *
    have HD6 : Hid (Below w4.heap.size w4 w6.drew) := by
      have := HB5.out.trans (HBa.out.mono HB5.out.size)
      exact ⟨this.os, this.tape, this.output, this.size, this.block⟩
    have HDr6 := HDr w6.drew HD6.out
    go_upto_region 5 with fail
    go_cut [11] (fun x wx => ∃ gb, x = .slice (some ⟨gb, 0, none⟩) n n ∧ Hid (w6.heap.size ≤ gb ∧ WB wx gb ds ∧ Below w6.heap.size w6 wx))
    case first =>
      go_region_held3 (fun w' => True) (trivial) (first | (go_at_call 5; with_reducible refine HDr6.out.mono ?_; rintro e w7 ⟨gb, rfl, hga, hw6, hb6⟩; have HX6 := hx6W HDS.out hga hw6 hb6; clear hga hw6 hb6))
      all_goals (go_wp2_with fail; go_meet; exact ⟨gb, rfl, HX6⟩)
    case rest =>
      obtain ⟨gb, rfl, HX⟩ := hcut
      generalize wc = w7 at *
      -- all that is held
      have HWb : Hid (WB w7 gb ds) := HX.out.2.1
      have HGb : Hid (gw < ga ∧ ga < gb ∧ gw < w7.heap.size ∧ ga < w7.heap.size ∧ gb < w7.heap.size ∧ w.heap.size ≤ gw) := ⟨by have := HG5.out; have := HGa.out; omega, by have := HGa.out; have := HX.out.1; omega, by have := HG5.out; have := HBa.out.size; have := HX.out.2.2.size; omega, by have := HGa.out; have := HX.out.2.2.size; omega, HWb.out.lt, by have := HG5.out; have := HB04.out.size; omega⟩
      have HWa7 : Hid (WB w7 ga ds) := HWa.out.kept HX.out.2.2 HGa.out.2
      have HWw7 : Hid (WB w7 gw ds) := (HW5.out.kept HBa.out HG5.out.2).kept HX.out.2.2 (by have := HG5.out; have := HBa.out.size; omega)
      have HB57 : Hid (Below w4.heap.size w4 w7) := (HB5.out.trans (HBa.out.mono HB5.out.size)).trans (HX.out.2.2.mono (Nat.le_trans HB5.out.size HBa.out.size))
      have HB07 : Hid (Below w.heap.size w w7) := HB04.out.trans (HB57.out.mono HB04.out.size)
      have HS7 : Hid (SdW w ao po L ps ds g2 g4 gw ga gb ds ds w7) := ⟨HWa7.out, HWb.out, HWw7.out, HLc.out.below HB57.out, HLw.out.below HB57.out, HPc.out.below HB57.out, HPw.out.below HB57.out, HB07.out, by have := HGb.out; omega⟩
      clear HX HWa HW5 HBa HB5 HDr6 HD6 HGa HG5 HDr HWb HWa7 HWw7 HB57 HB07 HLc HLw HPc HPw HB04
      go_wp2_with fail
      refine (sameBools_eqW w7 (some ⟨ga, 0, none⟩) (some ⟨gw, 0, none⟩) n n n ds HS7.out.a.at_ HS7.out.ww.at_ HDl.out (by omega)).mono ?_
      rintro e w8 ⟨rfl, q8, hw8⟩
      have HS8 : Hid (SdW w ao po L ps ds g2 g4 gw ga gb ds ds w8) := by rw [hw8]; exact HS7.out.drewN q8
      clear hw8 HS7
      go_wp2_with fail
      refine (sameBools_eqW w8 (some ⟨gb, 0, none⟩) (some ⟨gw, 0, none⟩) n n n ds HS8.out.b.at_ HS8.out.ww.at_ HDl.out (by omega)).mono ?_
      rintro e w9 ⟨rfl, q9, hw9⟩
      have HS9 : Hid (SdW w ao po L ps ds g2 g4 gw ga gb ds ds w9) := by rw [hw9]; exact HS8.out.drewN q9
      clear hw9 HS8
      go_wp2_with fail
      refine (sameChain_eqW w9 (some ⟨g2, 0, none⟩) ao n c2 ca L HS9.out.c.take HS9.out.l HN.out (by omega)).mono ?_
      rintro e w10 ⟨rfl, q10, hw10⟩
      have HS10 : Hid (SdW w ao po L ps ds g2 g4 gw ga gb ds ds w10) := by rw [hw10]; exact HS9.out.drewN q10
      clear hw10 HS9
      go_wp2_with fail
      refine (sameInts_eqW w10 (some ⟨g4, 0, none⟩) po m c4 cp ps HS10.out.p.take HS10.out.q HM.out (by omega)).mono ?_
      rintro e w11 ⟨rfl, q11, hw11⟩
      have HS11 : Hid (SdW w ao po L ps ds g2 g4 gw ga gb ds ds w11) := by rw [hw11]; exact HS10.out.drewN q11
      clear hw11 HS10
      have k1 : w11.cell? ⟨g2, n * 5, none⟩ = some (.int .i64 (-9)) := by
        obtain ⟨b, off, e, h⟩ := HS11.out.c.last (j := 0) (u := .int .i64 (-9)) rfl
        cases e
        rw [v5s_len, ← HN.out, Nat.zero_add, Nat.add_zero] at h
        exact h
      have k2 : w11.cell? ⟨g4, m, none⟩ = some (.int .i64 (-8)) := by
        obtain ⟨b, off, e, h⟩ := HS11.out.p.last (j := 0) (u := .int .i64 (-8)) rfl
        cases e
        rw [show (i64s ps).length = m by rw [HM.out]; simp [i64s], Nat.zero_add, Nat.add_zero] at h
        exact h
      have HE11 : Hid (SeW w ds gw ga gb (flipW ds 0) w11) := ⟨by rw [flipW_zero]; exact HS11.out.a, HS11.out.b, HS11.out.ww, HS11.out.bel, HS11.out.ab⟩
      clear HS11
      go_wp2_with fail
      clear k1 k2
      go_loopw [12] (fun x wr => ∃ i : Nat, i ≤ n ∧ x = .int .i64 (i : Int) ∧ Hid (SeW w ds gw ga gb (flipW ds i) wr)) (fun x _ => n - (intOf x).toNat)
      case atStart => exact ⟨0, Nat.zero_le _, rfl, HE11⟩
      case round =>
        clear HE11
        obtain ⟨i, hi, rfl, HE⟩ := hrel
        by_cases hlt : i < n
        · have hil : i < ds.length := by have := HDl.out; omega
          have c0 := HE.out.a.cell (flipW_get hil)
          have f0 := HE.out.a.frozen i
          have HE2 : Hid (SeW w ds gw ga gb (flipW ds (i + 1)) (wr.setCell ⟨ga, i, none⟩ (.bool (!ds[i])))) := by
            have := HE.out.set i (!ds[i])
            rw [flipW_set hil] at this
            exact this
          generalize ds[i] = z at *
          go_wp2
          go_roundw
          case rel => exact ⟨i + 1, by omega, by go_num, HE2⟩
          case measure => simp [intOf]; omega
        · obtain rfl : i = n := by omega
          have HP0 : Hid (PW w wr.heap.size gb gw ds wr (.slice (some ⟨ga, 0, none⟩) i i) (.slice (some ⟨gb, 0, none⟩) i i) 0 0) := by
            have := HE.out
            rw [flipW_all HDl.out] at this
            exact this.pw HDl.out
          clear HE
          generalize wr = w12 at *
          obtain ⟨N, hN⟩ : ∃ N, N = w12.heap.size := ⟨_, rfl⟩
          rw [← hN] at HP0
          clear hN
          go_wp2_with fail
          go_loopw [13, 14, 15] (fun x y z wr => ∃ (k t : Nat) (ax ay : Option Addr) (cx cy : Nat), k ≤ 40 ∧ z = .int .i64 (k : Int) ∧ x = .slice ax t cx ∧ y = .slice ay t cy ∧ Hid (t = ds.length + k) ∧ Hid (PW w N gb gw ds wr (.slice ax t cx) (.slice ay t cy) k k)) (fun _ _ z _ => 40 - (intOf z).toNat)
          case atStart => exact ⟨0, i, some ⟨ga, 0, none⟩, some ⟨gb, 0, none⟩, i, i, by omega, rfl, rfl, rfl, HDl.out, HP0⟩
          case round =>
            clear HP0
            obtain ⟨k, t, ax, ay, cx, cy, hk, rfl, rfl, rfl, HT, HPW⟩ := hrel
            have hdl := HDl.out
            have HL40 : Hid (ds.length + 41 ≤ 100000000000000) := by show _ ≤ _; omega
            replace hdl := hidW hdl
            by_cases hlt : k < 40
            · have hk40 : (k : Int) < 40 := by omega
              have HX := hidW (HPW.out.pushX (by have := HL40.out; omega))
              go_wp2_with (first
                | (at_builtin; refine wpL_appW rfl _ _ 28 rfl (.slice ax t cx) (.slice (some ⟨wr.heap.size, 0, none⟩) 1 1) rfl rfl HX.out ?_; rintro v1 u1 ⟨⟨ax1, cx1, rfl⟩, hp1⟩; have HP1 := hidW hp1; clear hp1; have HY := hidW (HP1.out.pushY (by have := HL40.out; omega)))
                | (at_builtin; refine wpL_appW rfl _ _ 28 rfl (.slice ay t cy) (.slice (some ⟨u1.heap.size, 0, none⟩) 1 1) rfl rfl HY.out ?_; rintro v2 u2 ⟨⟨ay1, cy1, rfl⟩, hp2⟩; have HP2 := hidW hp2; clear hp2))
              go_roundw
              case rel => exact ⟨k + 1, ds.length + k + 1, ax1, ay1, cx1, cy1, by omega, by go_num, rfl, rfl, rfl, HP2⟩
              case measure => simp [intOf]; omega
            · obtain rfl : k = 40 := by omega
              generalize wr = w13 at *
              simp only [show ((40 : Nat) : Int) = 40 from rfl]
              have htb : t ≤ 200000000000000 := by have := HT.out; have := HL40.out; omega
              go_wp2_with fail
              go_loopw [16] (fun x wr => ∃ j q : Nat, j ≤ t ∧ x = .int .i64 (j : Int) ∧ wr = w13.drewN q) (fun x _ => t - (intOf x).toNat)
              case atStart => exact ⟨0, 0, Nat.zero_le _, rfl, rfl⟩
              case round =>
                obtain ⟨j, q, hj, rfl, rfl⟩ := hrel
                by_cases hjt : j < t
                · obtain ⟨bx, ox, by_, oy, zx, zy, rfl, rfl, e1, e2, e3, e4⟩ := HPW.out.atX j (by have := HT.out; omega)
                  have E3 := hidW e3
                  have E4 := hidW e4
                  clear e3 e4
                  by_cases hji : j < i
                  · have hjl : j < ds.length := by have := HDl.out; omega
                    obtain ⟨hz1, hz2⟩ := E3.out hjl
                    have e5 := HPW.out.ww.cell (List.getElem?_eq_getElem hjl)
                    generalize ds[j] = z at *
                    subst hz1 hz2
                    have hji' : (j : Int) < (i : Int) := by omega
                    have hji3 : decide ((i : Int) ≤ (j : Int)) = false := decide_eq_false (by omega)
                    have hji4 : decide (i ≤ j) = false := decide_eq_false (by omega)
                    clear E3 E4
                    cases zy
                    · simp only [Bool.not_false] at e1
                      go_wp2_with fail
                      go_quiet (fail)
                      go_wp2_with fail
                      go_roundw
                      case rel => exact ⟨j + 1, q + nq, by omega, by go_num, rfl⟩
                      case measure => simp [intOf]; omega
                    · simp only [Bool.not_true] at e1
                      go_wp2_with fail
                      go_quiet (fail)
                      go_wp2_with fail
                      go_roundw
                      case rel => exact ⟨j + 1, q + nq, by omega, by go_num, rfl⟩
                      case measure => simp [intOf]; omega
                  · obtain ⟨hz1, hz2⟩ := E4.out (by have := HDl.out; omega)
                    subst hz1 hz2
                    have hji' : ¬ ((j : Int) < (i : Int)) := by omega
                    have hji2 : (i : Int) ≤ (j : Int) := by omega
                    clear E3 E4
                    go_wp2_with fail
                    go_quiet (fail)
                    go_wp2_with fail
                    go_roundw
                    case rel => exact ⟨j + 1, q + nq, by omega, by go_num, rfl⟩
                    case measure => simp [intOf]; omega
                · obtain rfl : j = t := by omega
                  have HBq : Hid (Below w.heap.size w (w13.drewN q)) := ⟨HPW.out.bel.os, HPW.out.bel.tape, HPW.out.bel.output, HPW.out.bel.size, HPW.out.bel.block⟩
                  have HCq := hidW (sameBools_eqW (w13.drewN q) (some ⟨gb, 0, none⟩) (some ⟨gw, 0, none⟩) i i i ds (WB.at_ (w := w13.drewN q) HPW.out.b) (WB.at_ (w := w13.drewN q) HPW.out.ww) HDl.out (by omega))
                  generalize w13.drewN q = w14 at *
                  go_wp2_with fail
                  refine HCq.out.mono ?_
                  rintro e w15 ⟨rfl, q15, hw15⟩
                  have HBz : Hid (Below w.heap.size w w15) := by rw [hw15]; exact ⟨HBq.out.os, HBq.out.tape, HBq.out.output, HBq.out.size, HBq.out.block⟩
                  clear hw15
                  go_wp2
                  go_ret
                  exact ⟨rfl, HBz.out⟩
end Go.Proofs.Ytmelbebjcdkbdaa
