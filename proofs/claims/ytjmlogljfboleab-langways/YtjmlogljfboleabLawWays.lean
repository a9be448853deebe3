/-
  THE WALK OF LangWays.
-/
import Derived.Test.YtjmlogljfboleabLWMath
import Derived.Test.YtjmlogljfboleabLAwake
import Derived.Test.YtjmlogljfboleabLAfter
namespace Go.Proofs.Ytjmlogljfboleab
open Go.RowKit Go.Sort

/-- what stands on a way -/
structure YS (w W : World) (p : Nums) (ao : Option Addr) (n cap g : Nat) (d : List Int) : Prop where
  bx : PBox W w.heap.size p ao n cap
  row : RowI W g d
  bel : Below w.heap.size w W
theorem YS.kept {w W W' : World} {p : Nums} {ao : Option Addr} {n cap g : Nat} {d : List Int} (h : YS w W p ao n cap g d) (hb : Below W.heap.size W W') : YS w W' p ao n cap g d := ⟨h.bx.kept hb, h.row.kept hb, h.bel.trans (hb.mono h.bel.size)⟩

set_option maxRecDepth 100000 in
set_option maxHeartbeats 4000000 in
theorem ways_walk (w : World) (p : Nums) (ao : Option Addr) (n cap : Nat) (L : List K) (hp : NIn p) (h : KeysAt w ao L) (hn : n = L.length) (tu : Int) (ht : 0 ≤ tu ∧ tu ≤ 18446744073709551615) :
    Calls Try.prog 5 #[pv p ao n cap, .int .u64 tu] w fun e w' => e = .returned (.bool true) ∧ Below w.heap.size w w' := by
  have HL : Hid (KeysAt w ao L) := h
  have HN : Hid (n = L.length) := hn
  have HP : Hid (NIn p) := hp
  have HTu : Hid (0 ≤ tu ∧ tu ≤ 18446744073709551615) := ht
  clear h hn hp ht
  go_enter Try.func5, Try.ntmps5
  go_wp2_with fail
  refine (awake_any _).mono ?_
  rintro e w1 ⟨rfl, hb1⟩
  have HP1 : Hid (PBox w1 w.heap.size p ao n cap) := (PBox.new w p ao n cap).kept hb1
  have HB1 : Hid (Below w.heap.size w w1) := ((Below.refl _ _).alloc (Nat.le_refl _) _).trans (hb1.mono (by simp))
  clear hb1
  obtain ⟨x0, x1, x2, x3, x4⟩ := HP1.out.cells
  go_wp2_with fail
  refine (depths_any w1 p ao n cap L HP.out (HL.out.kept HB1.out) HN.out).mono ?_
  rintro e w2 ⟨hd, hb2⟩
  have HP2 : Hid (PBox w2 w.heap.size p ao n cap) := HP1.out.kept hb2
  have HB2 : Hid (Below w.heap.size w w2) := HB1.out.trans (hb2.mono HB1.out.size)
  clear hb2 x0 x1 x2 x3 x4 HP1 HB1
  obtain ⟨x0, x1, x2, x3, x4⟩ := HP2.out.cells
  rcases hd with ⟨hv, rfl⟩ | ⟨hv, g, rfl, hrow, hg⟩
  · have HV : Hid (longestN p L = (0, verifyN p L)) := by show longestN p L = _; unfold longestN; rw [if_pos hv]
    go_wp2_with fail
    refine (longest_any w2 p ao n cap L HP.out (HL.out.kept HB2.out) HN.out).mono ?_
    rintro e w3 ⟨rfl, hb3⟩
    have HP3 : Hid (PBox w3 w.heap.size p ao n cap) := HP2.out.kept hb3
    have HB3 : Hid (Below w.heap.size w w3) := HB2.out.trans (hb3.mono HB2.out.size)
    rw [HV.out]
    clear hb3 x0 x1 x2 x3 x4 HP2 HB2
    obtain ⟨x0, x1, x2, x3, x4⟩ := HP3.out.cells
    go_wp2_with fail
    refine (verify_any w3 p ao n cap L HP.out (HL.out.kept HB3.out) HN.out).mono ?_
    rintro e w4 ⟨rfl, hb4⟩
    have HB4 : Hid (Below w.heap.size w w4) := HB3.out.trans (hb4.mono HB3.out.size)
    clear hb4 x0 x1 x2 x3 x4 HP3 HB3 HV
    generalize verifyN p L = v at *
    have hv' : (v != 0) = true := by simpa using hv
    have hvv : (v != v) = false := by simp
    go_wp2
    go_ret
    exact ⟨rfl, HB4.out⟩
  · have HV : Hid (longestN p L = ((mostN L L.length).getD 0 0, 0)) := by show longestN p L = _; unfold longestN; rw [if_neg (by rw [hv]; simp)]
    obtain ⟨hlim, hlook, d, hrun, hdep⟩ := verify_ok hv
    have hs := sane_of hlook
    have HSn : Hid (Sane L) := hs
    have HD : Hid (d.getD 0 0 = 0 ∧ ∀ i, i < L.length → d.getD i 0 ≠ -1 → 0 ≤ d.getD i 0 - takesN (cd L i).1 ∧ d.getD i 0 - takesN (cd L i).1 + leavesN (cd L i).1 ≤ 32 ∧ ∀ t ∈ nextN i (cd L i).1 (cd L i).2, d.getD t 0 = d.getD i 0 - takesN (cd L i).1 + leavesN (cd L i).1) := depth_way hs hrun
    have HM : Hid (∀ i, i < L.length → 1 ≤ (mostN L L.length).getD i 0 ∧ ∀ t ∈ nextN i (cd L i).1 (cd L i).2, (mostN L L.length).getD t 0 + 1 ≤ (mostN L L.length).getD i 0) := long_way hs
    have HM0 : Hid (∀ j, j ≤ L.length → 0 ≤ (mostN L L.length).getD j 0) := fun j hj => most_nonneg hs j hj
    have HMi : Hid (Mild d) := Mild.run hs (Nat.le_refl _) hrun
    have HDl : Hid (d.length = n + 1) := by rw [HN.out]; exact runD_length hrun
    have hn256 : n ≤ 256 := by have := ((limB_iff p L.length).1 hlim).2.2.2.2; have := HN.out; omega
    have HMb : Hid ((mostN L L.length).getD 0 0 ≤ 1000) := by
      have h1 := (most_few L hs L.length (Nat.le_refl _) 0 (by rw [most_length]; omega)).2
      have h2 := ((limB_iff p L.length).1 hlim).2.2.2.2
      show _ ≤ _
      omega
    rw [hdep] at hrow
    have HY2 : Hid (YS w w2 p ao n cap g d) := ⟨HP2.out, hrow, HB2.out⟩
    have HVz : Hid (verifyN p L = 0) := hv
    rw [← HN.out]
    clear hrow hg hlim hlook hrun hdep hs hv HP2 HB2
    generalize mostN L L.length = m at *
    generalize hm0 : m.getD 0 0 = most at *
    have HM1 : Hid (m.getD 0 0 = most) := hm0
    clear hm0
    go_wp2_with fail
    refine (longest_any w2 p ao n cap L HP.out (HL.out.kept HY2.out.bel) HN.out).mono ?_
    rintro e w3 ⟨rfl, hb3⟩
    have HY3 : Hid (YS w w3 p ao n cap g d) := HY2.out.kept hb3
    rw [HV.out]
    clear hb3 x0 x1 x2 x3 x4 HY2
    obtain ⟨x0, x1, x2, x3, x4⟩ := HY3.out.bx.cells
    go_wp2_with fail
    refine (verify_any w3 p ao n cap L HP.out (HL.out.kept HY3.out.bel) HN.out).mono ?_
    rintro e w4 ⟨rfl, hb4⟩
    have HY4 : Hid (YS w w4 p ao n cap g d) := HY3.out.kept hb4
    rw [HVz.out]
    clear hb4 x0 x1 x2 x3 x4 HY3
    obtain ⟨x0, x1, x2, x3, x4⟩ := HY4.out.bx.cells
    go_wp2_with fail
    clear x0 x1 x2 x3 x4
    go_loopw [1, 9, 10, 11] (fun t x y z wr => ∃ (tv : Int) (at1 : Nat) (nn st : Int), t = .int .u64 tv ∧ x = .int .i64 (at1 : Int) ∧ y = .int .i64 nn ∧ z = .int .i64 st ∧ at1 ≤ n ∧ (0 ≤ tv ∧ tv ≤ 18446744073709551615) ∧ (0 ≤ nn ∧ nn ≤ 32) ∧ 0 ≤ st ∧ Hid (d.getD at1 0 = nn) ∧ Hid (st + m.getD at1 0 ≤ most) ∧ Hid (YS w wr p ao n cap g d)) (fun _ x _ _ _ => n - (intOf x).toNat)
    case atStart => exact ⟨tu, 0, 0, 0, rfl, rfl, rfl, rfl, Nat.zero_le _, HTu.out, by omega, by omega, HD.out.1, by rw [HM1.out]; show _ ≤ _; omega, HY4⟩
    case round =>
      clear HY4
      obtain ⟨tv, at1, nn, st, rfl, rfl, rfl, rfl, hat, htv, hnn, hst, HDa, HMa, HY⟩ := hrel
      obtain ⟨x0, x1, x2, x3, x4⟩ := HY.out.bx.cells
      by_cases hlt : at1 < n
      · have hlt' : at1 < L.length := by have := HN.out; omega
        obtain ⟨kb, koff, rfl, c0, c1⟩ := (HL.out.kept HY.out.bel).get at1 hlt'
        have cr := HY.out.row.cell at1 (by have := HDl.out; omega)
        have hne : d.getD at1 0 ≠ -1 := by rw [HDa.out]; omega
        obtain ⟨q1, q2, q3⟩ := HD.out.2 at1 hlt' hne
        obtain ⟨q4, q5⟩ := HM.out at1 hlt'
        obtain ⟨q6, q7⟩ := HSn.out at1 hlt'
        have hma := HMa.out
        rw [HDa.out] at q1 q2 q3 cr
        have hlv := leaves_bound q6
        have htk := takes_bound q6
        have hst2 : st < most := by omega
        have hmb : most ≤ 1000 := by have := HMb.out; have := HM1.out; omega
        have HW : Hid (∀ t ∈ nextN at1 (cd L at1).1 (cd L at1).2, t ≤ n ∧ at1 < t ∧ d.getD t 0 = nn - takesN (cd L at1).1 + leavesN (cd L at1).1 ∧ st + 1 + m.getD t 0 ≤ most) := fun t ht => by
          have h1 := next_lt HSn.out hlt' t ht
          have h2 := q5 t ht
          exact ⟨by have := HN.out; omega, h1.1, q3 t ht, by omega⟩
        have HAf : Hid (∀ W, Calls Try.prog 26 #[.int .i64 (cd L at1).1, .int .i64 nn] W fun e w' => e = .returned (.int .i64 (nn - takesN (cd L at1).1 + leavesN (cd L at1).1)) ∧ w' = W) := fun W => after_any W _ nn q6 hnn (by omega) q2
        have hn2 : 0 ≤ nn - takesN (cd L at1).1 + leavesN (cd L at1).1 ∧ nn - takesN (cd L at1).1 + leavesN (cd L at1).1 ≤ 32 := by omega
        have HJ : Hid (jumpB (cd L at1).1 = true → (at1 : Int) < (cd L at1).2 ∧ (cd L at1).2 ≤ (n : Int)) := fun h => by have := q7 h; have := HN.out; omega
        generalize nn - takesN (cd L at1).1 + leavesN (cd L at1).1 = n2 at *
        have HDa2 : Hid (d.getD at1 0 = nn) := HDa
        clear q1 q2 q3 q4 q5 q6 q7 hlv htk hma hne HDa HMa hlt' cr
        generalize cd L at1 = kk at *
        obtain ⟨op, a⟩ := kk
        simp only at c0 c1 HW HAf HJ
        have HY2 : Hid (YS w (wr.alloc (.cells #[.int .i64 op, .int .i64 a] 58)) p (some ⟨kb, koff, none⟩) n cap g d) := HY.out.kept ((Below.refl _ _).alloc (Nat.le_refl _) _)
        obtain ⟨y0, y1, y2, y3, y4⟩ := HY2.out.bx.cells
        have cr := HY2.out.row.cell at1 (by have := HDl.out; omega)
        rw [HDa2.out] at cr
        clear HDa2
        have hst3 : ¬ most ≤ st := by omega
        go_wp2_with fail
        refine (HAf.out _).mono ?_
        rintro e w5 ⟨rfl, rfl⟩
        have hn20 : ¬ n2 < 0 := by omega
        clear cr c0 c1
        by_cases h0 : op = 0 ∨ op = 36
        · rcases h0 with rfl | rfl
          · go_wp2
            go_ret
            exact ⟨rfl, HY2.out.bel⟩
          · go_wp2
            go_ret
            exact ⟨rfl, HY2.out.bel⟩
        · have e0 : (op == 0) = false := by simp; omega
          have e36 : (op == 36) = false := by simp; omega
          by_cases h30 : op = 30
          · subst h30
            have hj := HJ.out rfl
            obtain ⟨t, rfl⟩ := Int.eq_ofNat_of_zero_le (show 0 ≤ a by omega)
            obtain ⟨k1, k2, k3, k4⟩ := HW.out t (by simp [nextN])
            have K3 : Hid (d.getD t 0 = n2) := k3
            have K4 : Hid (st + 1 + m.getD t 0 ≤ most) := k4
            have hj1 : ¬ (t : Int) ≤ (at1 : Int) := by omega
            have hj2 : ¬ (n : Int) < (t : Int) := by omega
            clear k3 k4 hj h0
            go_wp2
            go_roundw
            case rel => exact ⟨tv, t, n2, st + 1, rfl, rfl, rfl, rfl, k1, htv, hn2, by omega, K3, K4, HY2⟩
            case measure => simp [intOf]; omega
          · have e30 : (op == 30) = false := by simpa using h30
            by_cases h31 : op = 31
            · subst h31
              have hj := HJ.out rfl
              obtain ⟨t, rfl⟩ := Int.eq_ofNat_of_zero_le (show 0 ≤ a by omega)
              have htv2 : 0 ≤ tv / 2 ∧ tv / 2 ≤ 18446744073709551615 := by omega
              cases hb : (bits BinOp.and IntKind.u64 tv 1 == 1) with
              | true =>
                obtain ⟨k1, k2, k3, k4⟩ := HW.out t (by simp [nextN])
                have K3 : Hid (d.getD t 0 = n2) := k3
                have K4 : Hid (st + 1 + m.getD t 0 ≤ most) := k4
                have hj1 : ¬ (t : Int) ≤ (at1 : Int) := by omega
                have hj2 : ¬ (n : Int) < (t : Int) := by omega
                clear k3 k4 hj h0
                go_wp2
                go_roundw
                case rel => exact ⟨tv / 2, t, n2, st + 1, rfl, rfl, rfl, rfl, k1, htv2, hn2, by omega, K3, K4, HY2⟩
                case measure => simp [intOf]; omega
              | false =>
                obtain ⟨k1, k2, k3, k4⟩ := HW.out (at1 + 1) (by simp [nextN])
                have K3 : Hid (d.getD (at1 + 1) 0 = n2) := k3
                have K4 : Hid (st + 1 + m.getD (at1 + 1) 0 ≤ most) := k4
                clear k3 k4 hj h0
                go_wp2
                go_roundw
                case rel => exact ⟨tv / 2, at1 + 1, n2, st + 1, rfl, by go_num, rfl, rfl, k1, htv2, hn2, by omega, K3, K4, HY2⟩
                case measure => simp [intOf]; omega
            · have e31 : (op == 31) = false := by simpa using h31
              obtain ⟨k1, k2, k3, k4⟩ := HW.out (at1 + 1) (by unfold nextN; rw [if_neg h0, if_neg h31, if_neg h30]; simp)
              have K3 : Hid (d.getD (at1 + 1) 0 = n2) := k3
              have K4 : Hid (st + 1 + m.getD (at1 + 1) 0 ≤ most) := k4
              clear k3 k4 h0 h30 h31
              go_wp2
              go_roundw
              case rel => exact ⟨tv, at1 + 1, n2, st + 1, rfl, by go_num, rfl, rfl, k1, htv, hn2, by omega, K3, K4, HY2⟩
              case measure => simp [intOf]; omega
      · obtain rfl : at1 = n := by omega
        have cr := HY.out.row.cell at1 (by have := HDl.out; omega)
        rw [HDa.out] at cr
        go_wp2
        go_ret
        exact ⟨rfl, HY.out.bel⟩
end Go.Proofs.Ytjmlogljfboleab
