/-
  SourceTokens: THE LAW's WALK.
-/
import Derived.Test.YtlabofafmcbfmaaGreatDoorLawTokH
import Derived.Deep.RegionHeld3
namespace Go.Proofs.YtlabofafmcbfmaaGreatDoor
open Go.RowKit Go.Sort

theorem own_some9 {w : World} {base e size n : Nat} {v : Value} {xs : List Value} (h : w.ownsRow base e size v n xs) (hn : 0 < n) : ∃ g cap, v = .slice (some ⟨g, 0, none⟩) n cap ∧ n ≤ cap := by
  obtain ⟨_, ⟨rfl, rfl⟩ | ⟨g, cap, cur, rfl, hb, hg, hn, _⟩⟩ := h
  · omega
  · exact ⟨g, cap, rfl, hn⟩
set_option maxRecDepth 100000 in
set_option maxHeartbeats 8000000 in
theorem lawTok (w : World) (L : List UInt8) (hT : TabsOK w) (hP : PairVar w) (hN : NumVars w) (hM : MLen w) (he : ErrVar w) (hB : 10 ≤ w.heap.size) :
    Calls Tryz.prog 3 #[.string (S L)] w fun e w' => e = .returned (.bool true) ∧ Below w.heap.size w w' := by
  have HDo := hidS (docT_any w L)
  have HCo : Hid (∀ W', Below w.heap.size w W' → Calls Tryz.prog 5 #[.string (S L)] W' fun e w' => ∃ ao ac v, e = .returned (.tuple #[.slice ao (tkOut L).2.length ac, v]) ∧ OwnT w' W'.heap.size (.slice ao (tkOut L).2.length ac) (tkOut L).2 ∧ FltT w' v (tkOut L).1.1 (tkOut L).1.2.1 (tkOut L).1.2.2 ∧ (v = .nilIface ∨ ∃ t p, v = .iface t p) ∧ Below W'.heap.size W' w') := fun W' hb => codT_any W' L (hT.kept hb) (hP.kept hb) (hN.kept hb) (hM.kept hb) (he.bel hb hB) (by have := hb.size; omega)
  have hlen := tkOut_len L
  obtain ⟨sl, hsl⟩ : ∃ sl, sl = S L := ⟨_, rfl⟩
  rw [← hsl] at HDo HCo ⊢
  generalize tkOut L = o at *
  obtain ⟨⟨x, y, z⟩, ts⟩ := o
  simp only at HDo HCo hlen
  obtain ⟨n, hn⟩ : ∃ n, n = ts.length := ⟨_, rfl⟩
  rw [← hn] at HDo HCo
  have HN := hidS hn
  have hn9 : n ≤ 65536 := by omega
  clear hT hP hN hM he hB hsl hn hlen
  go_enter Tryz.func3, Tryz.ntmps3
  go_wp2_with fail
  refine HDo.out.mono ?_
  rintro e w1 ⟨go, gc, rfl, h1, hb1⟩
  obtain ⟨w2, hw2⟩ : ∃ w2, w2 = w1.alloc (.cells #[.int .i64 x, .int .i64 y, .int .i64 z] 24) := ⟨_, rfl⟩
  obtain ⟨f, hf⟩ : ∃ f, f = w1.heap.size := ⟨_, rfl⟩
  have hb2 : Below w1.heap.size w1 w2 := by rw [hw2]; exact bel_al _ _
  have hF : FB w2 f (.int .i64 x) (.int .i64 y) (.int .i64 z) := by rw [hw2, hf]; exact heap_alloc_new _ _ rfl
  have HF := hidS hF
  have HQ := hidS (h1.kept hb2)
  have HB2 : Hid (Below w.heap.size w w2) := hb1.trans (hb2.mono hb1.size)
  clear h1 hb1 hb2 hF HDo
  go_upto_region 2 with fail
  rw [← hw2, ← hf]
  clear hw2 hf
  go_wp2_with fail
  refine (HCo.out w2 HB2.out).mono ?_
  rintro e w3 ⟨ao, ac, v1, rfl, k1, k2, hv1, hb3⟩
  have HB3 : Hid (Below w2.heap.size w2 w3) := hb3
  have HB3w : Hid (Below w.heap.size w w3) := HB2.out.trans (hb3.mono HB2.out.size)
  have HR1 := hidS k1
  have HF1 := hidS k2
  have HV1 := hidS hv1
  clear k1 k2 hb3 hv1
  go_wp2_with fail
  refine (HCo.out w3 HB3w.out).mono ?_
  rintro e w4 ⟨bo, bc, v2, rfl, m1, m2, hv2, hb4⟩
  have hb24 : Below w2.heap.size w2 w4 := HB3.out.trans (hb4.mono HB3.out.size)
  have hb0 : Below w.heap.size w w4 := HB2.out.trans (hb24.mono HB2.out.size)
  have HR1k := hidS (HR1.out.kept hb4)
  have HR2 := hidS m1
  have HQ4 := hidS (HQ.out.kept hb24)
  have hF4 : FB w4 f (.int .i64 x) (.int .i64 y) (.int .i64 z) := (hb24.block f (Array.getElem?_eq_some_iff.1 HF.out).1).trans HF.out
  have hts9 : ts.length ≤ 65536 := by have := HN.out; omega
  have HCl : Hid (∀ W, Below w4.heap.size w4 W → W.cell? ⟨f, 0, none⟩ = some (.int .i64 x) ∧ W.cell? ⟨f, 1, none⟩ = some (.int .i64 y) ∧ W.cell? ⟨f, 2, none⟩ = some (.int .i64 z)) := fun W hb => by
    have h9 : W.heap[f]? = some (.cells #[.int .i64 x, .int .i64 y, .int .i64 z] 24 (0, 0)) := (hb.block f (Array.getElem?_eq_some_iff.1 hF4).1).trans hF4
    exact ⟨by simp [World.cell?, h9], by simp [World.cell?, h9], by simp [World.cell?, h9]⟩
  have HG1 : Hid (∀ W, Below w4.heap.size w4 W → Calls Tryz.prog 6 #[v1] W fun e w' => e = .returned (ftT x y z) ∧ Below W.heap.size W w') := fun W hb => HF1.out W (hb4.trans (hb.mono hb4.size))
  have HG2 : Hid (∀ W, Below w4.heap.size w4 W → Calls Tryz.prog 6 #[v2] W fun e w' => e = .returned (ftT x y z) ∧ Below W.heap.size W w') := fun W hb => m2 W hb
  have HS1 : Hid (∀ W, Below w4.heap.size w4 W → Calls Tryz.prog 7 #[.slice ao n ac, .slice go n gc] W fun e w' => e = .returned (.bool true) ∧ Below W.heap.size W w') := fun W hb => sameTok_any W _ _ _ _ ts (HR1k.out.kept hb) (HQ4.out.kept hb) hts9
  have HS2 : Hid (∀ W, Below w4.heap.size w4 W → Calls Tryz.prog 7 #[.slice bo n bc, .slice go n gc] W fun e w' => e = .returned (.bool true) ∧ Below W.heap.size W w') := fun W hb => sameTok_any W _ _ _ _ ts (HR2.out.kept hb) (HQ4.out.kept hb) hts9
  have HTL : Hid (∀ W, Below w4.heap.size w4 W → TL w W w2.heap.size (.slice ao n ac) n (.slice bo n bc) (.slice go n gc) w3.heap.size w.heap.size ts) := fun W hb => by
    have hr1 := HR1k.out.kept hb
    have hr2 := HR2.out.kept hb
    have hq4 := HQ4.out.kept hb
    refine ⟨⟨tkc ts, ?_⟩, hr2, hq4, fun g hg e => ?_, fun g hg e => ?_, hb0.trans (hb.mono hb0.size), HB2.out.size, Nat.le_trans hb24.size hb.size⟩
    · have h9 := hr1
      unfold OwnT at h9
      rw [← HN.out] at h9
      exact h9
    · have q1 := (World.ownsRow.lt HR1.out g hg).2
      have q2 := (World.ownsRow.lt HR2.out g e).1
      omega
    · have q1 := (World.ownsRow.lt HR1.out g hg).1
      have q2 := (World.ownsRow.lt HQ.out g e).2
      omega
  have hDr : Below w4.heap.size w4 w4.drew := bel_drewN w4 1
  have HDr := hidS hDr
  have HB0 := hidS hb0
  obtain ⟨c0, c1, c2⟩ := HCl.out w4 (Below.refl _ _)
  have HV2 := hidS hv2
  clear m1 m2 hb4 hb24 hF4 hDr hb0 HF HQ HQ4 HR1 HR1k HR2 HCo HF1 HB3 hv2
  go_upto_region 4 with fail
  go_region_held3 (fun w' => w'.cell? ⟨f, 0, none⟩ = some (.int .i64 x) ∧ w'.cell? ⟨f, 1, none⟩ = some (.int .i64 y) ∧ w'.cell? ⟨f, 2, none⟩ = some (.int .i64 z)) (first | with_reducible exact HC8.out | with_reducible exact HC7.out | with_reducible exact HC6.out | with_reducible exact HC5.out | go_keep) (first
    | (go_at_call 6; with_reducible refine (HG1.out _ HDr.out).mono ?_; rintro e w5 ⟨rfl, hb5⟩; have HB5 := hidS (HDr.out.trans (hb5.mono HDr.out.size)); have HC5 := hidS (HCl.out w5 HB5.out); clear hb5)
    | (go_at_call 6; with_reducible refine (HG2.out _ HB5.out).mono ?_; rintro e w6 ⟨rfl, hb6⟩; have HB6 := hidS (HB5.out.trans (hb6.mono HB5.out.size)); have HC6 := hidS (HCl.out w6 HB6.out); clear hb6)
    | (go_at_call 7; with_reducible refine (HS1.out _ HB6.out).mono ?_; rintro e w7 ⟨rfl, hb7⟩; have HB7 := hidS (HB6.out.trans (hb7.mono HB6.out.size)); have HC7 := hidS (HCl.out w7 HB7.out); clear hb7)
    | (go_at_call 7; with_reducible refine (HS2.out _ HB7.out).mono ?_; rintro e w8 ⟨rfl, hb8⟩; have HB8 := hidS (HB7.out.trans (hb8.mono HB7.out.size)); have HC8 := hidS (HCl.out w8 HB8.out); clear hb8))
  have HT8 := hidS (HTL.out w8 HB8.out)
  clear HC5 HC6 HC7 HC8 HB5 HB6 HB7 HB8 HDr HCl HG1 HG2 HS1 HS2 HTL
  go_wp2_with fail
  go_loopw [9] (fun x9 wr => ∃ (i : Nat), i ≤ n ∧ x9 = .int .i64 (i : Int) ∧ Hid (TL w wr w2.heap.size (.slice ao n ac) n (.slice bo n bc) (.slice go n gc) w3.heap.size w.heap.size ts)) (fun x9 _ => n - (intOf x9).toNat)
  case atStart => exact ⟨0, Nat.zero_le _, rfl, HT8.out⟩
  case round =>
    clear HT8
    obtain ⟨i, hi, rfl, HTi⟩ := hrel
    by_cases hlt : i < n
    · have hiI : (i : Int) < (n : Int) := by omega
      obtain ⟨xs, hxs⟩ := HTi.out.ra
      obtain ⟨g, c9, hgs, _⟩ := own_some9 hxs (by omega)
      simp only [Value.slice.injEq, true_and] at hgs
      obtain ⟨rfl, rfl⟩ := hgs
      obtain ⟨⟨u0, r0⟩, q0⟩ := own_frozen hxs (i * 5) (by omega)
      obtain ⟨⟨u1, r1⟩, q1⟩ := own_frozen hxs (i * 5 + 1) (by omega)
      obtain ⟨⟨u2, r2⟩, q2⟩ := own_frozen hxs (i * 5 + 2) (by omega)
      obtain ⟨⟨u3, r3⟩, q3⟩ := own_frozen hxs (i * 5 + 3) (by omega)
      obtain ⟨⟨u4, r4⟩, q4⟩ := own_frozen hxs (i * 5 + 4) (by omega)
      have HT9 : Hid (∀ x0 x1 x2 x3 x4, TL w (((((wr.setCell ⟨g, i * 5, none⟩ x0).setCell ⟨g, i * 5 + 1, none⟩ x1).setCell ⟨g, i * 5 + 2, none⟩ x2).setCell ⟨g, i * 5 + 3, none⟩ x3).setCell ⟨g, i * 5 + 4, none⟩ x4) w2.heap.size (.slice (some ⟨g, 0, none⟩) n ac) n (.slice bo n bc) (.slice go n gc) w3.heap.size w.heap.size ts) := fun x0 x1 x2 x3 x4 => ((((HTi.out.set _ x0).set _ x1).set _ x2).set _ x3).set _ x4
      clear hxs HTi
      go_wp2_with fail
      go_roundw
      case rel => exact ⟨i + 1, by omega, by go_num, HT9.out _ _ _ _ _⟩
      case measure => simp [intOf]; omega
    · have hiI : ¬ (i : Int) < (n : Int) := by omega
      clear hlt hi
      go_wp2_with fail
      go_loopw [10, 11] (fun x9 y9 wq => ∃ (k m : Nat) (a9 : Option Addr) (c9 : Nat), k ≤ 20 ∧ m = n + k ∧ x9 = .slice a9 m c9 ∧ y9 = .int .i64 (k : Int) ∧ Hid (TL w wq w2.heap.size (.slice a9 m c9) m (.slice bo n bc) (.slice go n gc) w3.heap.size w.heap.size ts)) (fun _ y9 _ => 20 - (intOf y9).toNat)
      case atStart => exact ⟨0, n, ao, ac, by omega, rfl, rfl, rfl, HTi.out⟩
      case round =>
        clear HTi
        obtain ⟨k, m, a9, c9, hk, hmn, rfl, rfl, HTk⟩ := hrel
        by_cases hlt : k < 20
        · have hkI : (k : Int) < 20 := by omega
          have hm9 : m ≤ 1000000 := by omega
          have HAp := HTk.out.app hm9 (.int .i64 (-2)) rfl
          have HMk := hidS hmn
          clear hmn
          go_wp2_with (first
            | (at_builtin; refine wpL_appR rfl _ _ _ rfl _ _ rfl rfl HAp ?_; rintro v9 w9 ⟨hT9, a10, c10, rfl⟩)
            | fail)
          have HT9 := hidS hT9
          clear hT9 HAp HTk
          go_wp2_with fail
          go_roundw
          case rel => exact ⟨k + 1, m + 1, a10, c10, by omega, by have := HMk.out; omega, rfl, by go_num, HT9⟩
          case measure => simp [intOf]; omega
        · have hkI : ¬ (k : Int) < 20 := by omega
          have HSm := hidS (sameTok_any wr _ _ _ _ ts HTk.out.rb HTk.out.rq hts9)
          have HBl : Hid (Below w.heap.size w wr) := HTk.out.bel
          clear HTk hlt hk hmn
          go_wp2_with fail
          refine HSm.out.mono ?_
          rintro e wz ⟨rfl, hz⟩
          have HX : Hid (Below w.heap.size w wz) := HBl.out.trans (hz.mono HBl.out.size)
          clear hz
          go_wp2_with fail
          go_ret
          exact ⟨rfl, HX.out⟩
end Go.Proofs.YtlabofafmcbfmaaGreatDoor
