import Derived.Test.YtcaibgbhebldmaaGreatJ37
/-
  THE WALK OF New.
-/
namespace Go.Proofs.YtcaibgbhebldmaaGreat
open Go.RowKit Go.Sort

set_option maxRecDepth 100000 in
set_option maxHeartbeats 2000000 in
theorem newM_any (w : World) (p : Nums) (ao : Option Addr) (n cap : Nat) (L : List K) (aa : Option Addr) (na ca : Nat) (A : List Int) (ra : Option Addr) (nr cr : Nat) (R : List C) (hin : CallIn w p ao n cap L aa na ca A ra nr cr R) :
    Calls Tryz.prog 36 #[pv p ao n cap, .slice aa na ca, .slice ra nr cr] w fun e w' => NewPost w p L A R e w' ∧ Go.RowKit.Below w.heap.size w w' := by
  have HIn : Hid (CallIn w p ao n cap L aa na ca A ra nr cr R) := hin
  clear hin
  go_enter Tryz.func36, Tryz.ntmps36
  have hb0 : Go.RowKit.Below w.heap.size w (w.alloc (.cells #[.int .i64 p.args, .int .i64 p.reads, .int .i64 p.writes, .int .i64 p.locals, .slice ao n cap] 50)) := (Below.refl _ _).alloc (Nat.le_refl _) _
  have HC := verify_any (w.alloc (.cells #[.int .i64 p.args, .int .i64 p.reads, .int .i64 p.writes, .int .i64 p.locals, .slice ao n cap] 50)) p ao n cap L HIn.out.nin (HIn.out.keys.kept hb0) HIn.out.ln
  have HB0 : Hid (Go.RowKit.Below w.heap.size w (w.alloc (.cells #[.int .i64 p.args, .int .i64 p.reads, .int .i64 p.writes, .int .i64 p.locals, .slice ao n cap] 50))) := hb0
  have HPB : Hid (PBox (w.alloc (.cells #[.int .i64 p.args, .int .i64 p.reads, .int .i64 p.writes, .int .i64 p.locals, .slice ao n cap] 50)) w.heap.size p ao n cap) := PBox.new w p ao n cap
  clear hb0
  go_wp2_with fail
  refine HC.mono ?_
  rintro e w1 ⟨rfl, hb1⟩
  have HB1 : Hid (Go.RowKit.Below w.heap.size w w1) := HB0.out.trans (hb1.mono HB0.out.size)
  have HP1 : Hid (PBox w1 w.heap.size p ao n cap) := HPB.out.kept hb1
  have HI1 : Hid (CallIn w1 p ao n cap L aa na ca A ra nr cr R) := HIn.out.kept HB1.out
  clear hb1 HC
  by_cases hv : verifyN p L = 0
  · rw [hv]
    obtain ⟨d, hs⟩ := sound_of hv
    obtain ⟨l1, l2, l3, l4, l5⟩ := (limB_iff p L.length).1 hs.lim
    have hn256 : n ≤ 256 := by rw [HI1.out.ln]; exact l5
    obtain ⟨x0, x1, x2, x3, x4⟩ := HP1.out.cells
    have HV : Hid (verifyN p L = 0) := hv
    have HLa : Hid (na = A.length ∧ nr = R.length) := ⟨HI1.out.la, HI1.out.lr⟩
    clear hv hs
    by_cases ha : (na : Int) = p.args
    · by_cases hr : (nr : Int) = p.reads
      · have HF : Hid (newE p L A R = 0) := by
          show newE p L A R = 0
          have : fedB p A R = true := by unfold fedB; rw [← HLa.out.1, ← HLa.out.2]; simp [ha, hr]
          unfold newE; rw [if_neg (by simp [HV.out]), if_neg (by simp [this])]
        obtain ⟨nl, hnl⟩ := Int.eq_ofNat_of_zero_le l4.1
        obtain ⟨np, hnp⟩ := Int.eq_ofNat_of_zero_le l3.1
        have hna : na ≤ 256 := by omega
        have hnr : nr ≤ 256 := by omega
        have hnl16 : nl ≤ 16 := by omega
        have hnp16 : np ≤ 16 := by omega
        have m1 := make_64 nl hnl16
        have m2 := make_puts np hnp16
        have HNL : Hid (p.locals = (nl : Int) ∧ p.writes = (np : Int)) := ⟨hnl, hnp⟩
        rw [← ha] at x0
        rw [← hr] at x1
        rw [hnp] at x2
        rw [hnl] at x3
        have hlt := HP1.out.lt
        have HW : Hid (w.heap.size ≤ w1.heap.size) := HB1.out.size
        have HS : Hid (NS w1 w1.drew nilRw nilRw nilRw nilRw nilRw) := NS.start w1
        have t4 := x4
        have t3 := x3
        have t2 := x2
        clear l1 l2 l3 l4 l5 hnl hnp ha hr HB0 HPB
        go_upto_region 6 with fail
        go_cut [6, 7] (fun v6 v7 wx => v7 = .int .i64 0 ∧ NewOut w w1 p L A R v6 wx)
        case first =>
          clear x0 x1
          go_region_held (fun w' => w'.cell? ⟨w.heap.size, 4, none⟩ = some (.slice ao n cap) ∧ w'.cell? ⟨w.heap.size, 3, none⟩ = some (.int .i64 (nl : Int)) ∧ w'.cell? ⟨w.heap.size, 2, none⟩ = some (.int .i64 (np : Int))) (first | with_reducible exact ⟨t4, t3, t2⟩ | exact keepA ‹_ ∧ _ ∧ _› | exact keepD ‹_ ∧ _ ∧ _› | go_keep) (first
            | (go_at_call 58; (first | refine (cloneC HS.out HI1.out.keys HI1.out.ln HI1.out.cnil hn256).mono ?_ | refine (cloneC (HS.out.mkL hnl16) HI1.out.keys HI1.out.ln HI1.out.cnil hn256).mono ?_ | refine (cloneC (HS.out.mkP hnp16) HI1.out.keys HI1.out.ln HI1.out.cnil hn256).mono ?_ | refine (cloneC ((HS.out.mkL hnl16).mkP hnp16) HI1.out.keys HI1.out.ln HI1.out.cnil hn256).mono ?_ | refine (cloneC ((HS.out.mkP hnp16).mkL hnl16) HI1.out.keys HI1.out.ln HI1.out.cnil hn256).mono ?_); rintro e W1 ⟨b1, n1, k1, rfl, hns⟩; have HS1 := hidNS hns; have t4 := hns.pcell hlt x4; have t3 := hns.pcell hlt x3; have t2 := hns.pcell hlt x2; clear hns)
            | (go_at_call 59; (first | refine (cloneA HS1.out HI1.out.args HLa.out.1 hna).mono ?_ | refine (cloneA (HS1.out.mkL hnl16) HI1.out.args HLa.out.1 hna).mono ?_ | refine (cloneA (HS1.out.mkP hnp16) HI1.out.args HLa.out.1 hna).mono ?_ | refine (cloneA ((HS1.out.mkL hnl16).mkP hnp16) HI1.out.args HLa.out.1 hna).mono ?_ | refine (cloneA ((HS1.out.mkP hnp16).mkL hnl16) HI1.out.args HLa.out.1 hna).mono ?_); rintro e W2 ⟨b2, n2, k2, rfl, hns⟩; have HS2 := hidNS hns; have t4 := hns.pcell hlt x4; have t3 := hns.pcell hlt x3; have t2 := hns.pcell hlt x2; clear hns)
            | (go_at_call 60; (first | refine (cloneR HS2.out HI1.out.reads HLa.out.2 hnr).mono ?_ | refine (cloneR (HS2.out.mkL hnl16) HI1.out.reads HLa.out.2 hnr).mono ?_ | refine (cloneR (HS2.out.mkP hnp16) HI1.out.reads HLa.out.2 hnr).mono ?_ | refine (cloneR ((HS2.out.mkL hnl16).mkP hnp16) HI1.out.reads HLa.out.2 hnr).mono ?_ | refine (cloneR ((HS2.out.mkP hnp16).mkL hnl16) HI1.out.reads HLa.out.2 hnr).mono ?_); rintro e W3 ⟨b3, n3, k3, rfl, hns⟩; have HS3 := hidNS hns; have t4 := hns.pcell hlt x4; have t3 := hns.pcell hlt x3; have t2 := hns.pcell hlt x2; clear hns))
          all_goals (
            go_wp2_with fail
            go_meet
            refine ⟨rfl, ?_⟩
            first
              | refine newOut HS3.out ?_ ?_ ?_ HW.out HNL.out
              | refine newOut (HS3.out.mkL hnl16) ?_ ?_ ?_ HW.out HNL.out
              | refine newOut (HS3.out.mkP hnp16) ?_ ?_ ?_ HW.out HNL.out
              | refine newOut ((HS3.out.mkL hnl16).mkP hnp16) ?_ ?_ ?_ HW.out HNL.out
              | refine newOut ((HS3.out.mkP hnp16).mkL hnl16) ?_ ?_ ?_ HW.out HNL.out
            all_goals first | rfl | simp)
        case rest =>
          obtain ⟨rfl, B, Z, rfl, hB, hM, hb⟩ := hcut
          have HX : Hid (NewPost w p L A R (.returned (.tuple #[pm B, .int .i64 0])) wc ∧ Go.RowKit.Below w.heap.size w wc) := ⟨.inr ⟨HF.out, B, Z, rfl, hB, hM⟩, HB1.out.trans (hb.mono HW.out)⟩
          clear hB hM hb
          go_wp2
          go_ret2
          exact HX.out
      · have HF : Hid (newE p L A R = 50) := by
          show newE p L A R = 50
          have : fedB p A R = false := by unfold fedB; rw [← HLa.out.1, ← HLa.out.2]; simp [hr]
          unfold newE; rw [if_neg (by simp [HV.out]), if_pos this]
        have hr' : ((nr : Int) != p.reads) = true := by simpa using hr
        have ha' : ((na : Int) != p.args) = false := by simpa using ha
        have HX : Hid (NewPost w p L A R (.returned (.tuple #[.pointer none, .int .i64 50])) w1 ∧ Go.RowKit.Below w.heap.size w w1) := ⟨.inl ⟨by rw [HF.out]; decide, by rw [HF.out]⟩, HB1.out⟩
        clear l1 l2 l3 l4 l5 ha hr
        go_wp2
        go_ret2
        exact HX.out
    · have HF : Hid (newE p L A R = 50) := by
        show newE p L A R = 50
        have : fedB p A R = false := by unfold fedB; rw [← HLa.out.1]; simp [ha]
        unfold newE; rw [if_neg (by simp [HV.out]), if_pos this]
      have ha' : ((na : Int) != p.args) = true := by simpa using ha
      have HX : Hid (NewPost w p L A R (.returned (.tuple #[.pointer none, .int .i64 50])) w1 ∧ Go.RowKit.Below w.heap.size w w1) := ⟨.inl ⟨by rw [HF.out]; decide, by rw [HF.out]⟩, HB1.out⟩
      clear l1 l2 l3 l4 l5 ha
      go_wp2
      go_ret2
      exact HX.out
  · have HF : Hid (newE p L A R = verifyN p L) := by show newE p L A R = _; unfold newE; rw [if_pos hv]
    have hv' : (verifyN p L != 0) = true := by simpa using hv
    have HX : Hid (NewPost w p L A R (.returned (.tuple #[.pointer none, .int .i64 (verifyN p L)])) w1 ∧ Go.RowKit.Below w.heap.size w w1) := ⟨.inl ⟨by rw [HF.out]; exact hv, by rw [HF.out]⟩, HB1.out⟩
    clear HF hv
    generalize verifyN p L = v at *
    go_wp2
    go_ret2
    exact HX.out
end Go.Proofs.YtcaibgbhebldmaaGreat
