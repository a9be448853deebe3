/-
  BookDoor: THE LAW.
-/
import Derived.Test.YtgejibjmmfklcabBkWorks
namespace Go.Proofs.Ytgejibjmmfklcab
open Go.RowKit Go.Sort

/-- a script that is sound -/
def OpsIn (os : List Oc) : Prop := ∀ o ∈ os, (∀ s ∈ o.L, ∀ k ∈ s, KIn k) ∧ In64 o.m ∧ In64 o.kind ∧ KIn o.k
theorem formN_some (L : List (List K)) : formN L = 0 ∨ formN L = 60 ∨ formN L = 64 ∨ formN L = 65 := by
  have h : ∀ L : List (List K), formL L = 0 ∨ formL L = 64 ∨ formL L = 65 := by
    intro L
    induction L with
    | nil => exact .inl rfl
    | cons s l ih =>
      rw [show formL (s :: l) = if 16 < s.length then 64 else if Rise s then formL l else 65 from rfl]
      split
      · exact .inr (.inl rfl)
      · split
        · exact ih
        · exact .inr (.inr rfl)
  unfold formN
  split
  · exact .inr (.inl rfl)
  · rcases h L with h | h | h
    · exact .inl h
    · exact .inr (.inr (.inl h))
    · exact .inr (.inr (.inr h))
/-- the three ways of an Admit at the door -/
theorem adm_cases (cap la : Int) (all : List V4) (L : List (List K)) (hla : la ≤ 100000) :
    (wgtE L = -1 ∧ admE cap la all L ≠ 0 ∧ admE cap la all L ≠ 100) ∨
    (∃ g : Nat, g ≤ 1024 ∧ wgtE L = (g : Int) ∧ wgt L = g ∧ ((cap < (all.length : Int) + g ∧ admE cap la all L = 100) ∨ ((all.length : Int) + g ≤ cap ∧ admE cap la all L = 0))) := by
  by_cases hf : formN L = 0
  · have hk := formN_ok hf
    refine .inr ⟨wgt L, wgt_le hk.1 (fun s hs => (hk.2 s hs).1), wgtE_ok hf, rfl, ?_⟩
    have e : admE cap la all L = if cap < (all.length : Int) + (wgt L : Int) then 100 else 0 := by
      unfold admE
      rw [if_neg (by simp [hf]), if_neg (by omega)]
    by_cases h : cap < (all.length : Int) + (wgt L : Int)
    · exact .inl ⟨h, by rw [e, if_pos h]⟩
    · exact .inr ⟨by omega, by rw [e, if_neg h]⟩
  · have e : admE cap la all L = formN L := by unfold admE; rw [if_pos hf]
    refine .inl ⟨wgtE_bad rfl hf, by rw [e]; exact hf, ?_⟩
    rw [e]
    rcases formN_some L with h | h | h | h <;> rw [h] <;> decide
theorem tail_ch {W : World} {B Mp Mc Mn : Nat} {cap la fl x : Int} {pins : List (Int × Int)} {all : List V4} {nw : List K} (h : BA W B Mp Mc Mn cap la fl pins all nw) (e : (all.length : Int) = x) : Calls Try.prog 17 #[ptr B] W fun e w' => e = .returned (.int .i64 x) ∧ w' = W := by
  subst e
  exact charge_any W B Mp Mc Mn cap la fl pins all nw h
theorem tail_la {W : World} {B Mp Mc Mn : Nat} {cap la fl y : Int} {pins : List (Int × Int)} {all : List V4} {nw : List K} (h : BA W B Mp Mc Mn cap la fl pins all nw) (e : la = y) : Calls Try.prog 18 #[ptr B] W fun e w' => e = .returned (.int .i64 y) ∧ w' = W := by
  subst e
  exact latest_any W B Mp Mc Mn cap la fl pins all nw h
set_option maxHeartbeats 4000000 in
set_option maxRecDepth 100000 in
theorem lawBkDoor (w : World) (cap : Int) (ao : Option Addr) (n c : Nat) (os : List Oc) (hn : n = os.length) (hops : OpsAt (fun k => w.heap.size ≤ k) w ao os) (hin : OpsIn os) (hnb : n ≤ 140737488351232) :
    Calls Try.prog 3 #[.int .i64 cap, .slice ao n c] w fun e w' => e = .returned (.bool true) ∧ Below w.heap.size w w' := by
  have HN := hidC hn
  have HI := hidC hin
  have HO : Hid (∀ W, Below w.heap.size w W → OpsAt (fun k => w.heap.size ≤ k) W ao os) := fun W hW => hops.fr ⟨hW.os, hW.tape, hW.output, hW.size, fun k hk _ => hW.block k hk⟩
  have HP := hidC (partsO_any (fun k => w.heap.size ≤ k) w 0 false 0 none 0 0 none 0 0 [] ao n c os rfl hn (fun i hi => by simp at hi) hops (by omega) (by omega) hnb)
  clear hn hops hin
  go_enter Try.func3, Try.ntmps3
  go_wp2_with fail
  refine HP.out.mono ?_
  rintro e W1 ⟨r, rfl, hr, hb1⟩
  clear HP
  by_cases hr0 : r < 0
  · go_wp2
    go_ret
    exact ⟨rfl, hb1⟩
  · have hr1 : decide (r < 0) = false := decide_eq_false hr0
    have HPo := hidC (hr (by omega))
    have HB1 := hidC hb1
    have hn5 : n ≤ 100000 := by rw [HN.out]; exact HPo.out.2.2.2.1
    clear hr hb1
    go_wp2_with fail
    refine (works_any W1).mono ?_
    rintro e W2 ⟨rfl, hb2⟩
    have HB2 : Hid (Below w.heap.size w W2) := HB1.out.trans (hb2.mono HB1.out.size)
    clear hb2 HB1
    go_wp2_with fail
    refine (new_any W2 cap).mono ?_
    rintro e W3 (⟨hc, rfl, hw3⟩ | ⟨hc, B, Mp, Mc, Mn, rfl, hba, hsb, hb3⟩)
    · subst hw3
      go_wp2_with fail
      refine (numB_any _ 91).mono ?_
      rintro e W4 ⟨rfl, hw4⟩
      subst hw4
      rcases hc with hc | hc
      · go_wp2
        go_ret
        exact ⟨by first | rfl | simp, HB2.out⟩
      · have hc1 : ¬ cap < 1 := by omega
        go_wp2
        go_ret
        exact ⟨by first | rfl | simp, HB2.out⟩
    · have HA3 := hidC hba
      have HB3 : Hid (Below w.heap.size w W3) := HB2.out.trans (hb3.mono HB2.out.size)
      have HS : Hid (∀ k, SB B Mp Mc Mn k → w.heap.size ≤ k) := fun k hk => Nat.le_trans HB2.out.size (hsb k hk)
      clear hba hsb hb3 HB2
      go_wp2_with fail
      go_loopw [7, 8, 9, 10, 11, 12, 13, 14, 15] (fun xc xl xi _ _ _ _ _ _ wr => ∃ (i ch : Nat) (la : Int), i ≤ n ∧ xi = .int .i64 (i : Int) ∧ xc = .int .i64 (ch : Int) ∧ xl = .int .i64 la ∧ 0 ≤ la ∧ la ≤ i ∧ (ch : Int) ≤ cap ∧ Hid (∃ (s : Bs) (nw : List K), s.la = la ∧ s.all.length = ch ∧ BA wr B Mp Mc Mn cap s.la s.fl s.pins s.all nw ∧ Below w.heap.size w wr)) (fun _ _ xi _ _ _ _ _ _ _ => n - (intOf xi).toNat)
      case atStart => exact ⟨0, 0, 0, Nat.zero_le _, rfl, rfl, rfl, by omega, by omega, by omega, ⟨0, 0, [], []⟩, [], rfl, rfl, HA3.out, HB3.out⟩
      case round =>
        clear HA3 HB3
        obtain ⟨i, ch, la, hi, rfl, rfl, rfl, hl0, hl1, hcc, HR⟩ := hrel
        by_cases hlt : i < n
        · obtain ⟨s, nw, HX⟩ := HR.out
          replace HX := hidC HX
          clear HR
          have hil : i < os.length := by have := HN.out; omega
          obtain ⟨b, off, rfl, hoc⟩ := HO.out wr HX.out.2.2.2 i hil
          have HIo := hidC (HI.out _ (List.getElem_mem hil))
          have HPi := hidC (HPo.out.2.2.2.2 _ (List.getElem_mem hil))
          have HOc := hidC hoc
          obtain ⟨_, _, c0, c1, c2, c3, c4, _⟩ := hoc
          generalize os[i] = o at *
          obtain ⟨kind, oa, occ, L, m, k1, k2⟩ := o
          simp only at c0 c1 c2 c3 c4
          obtain ⟨ln, hln⟩ : ∃ ln, ln = L.length := ⟨_, rfl⟩
          have HLn := hidC hln
          rw [← hln] at c1
          clear hln
          obtain ⟨U, hU⟩ : ∃ U, U = wr.alloc (.cells #[.int .i64 kind, .slice oa ln occ, .int .i64 m, .int .i64 k1, .int .i64 k2] 40) := ⟨_, rfl⟩
          obtain ⟨g, hg⟩ : ∃ g, g = wr.heap.size := ⟨_, rfl⟩
          have HU : Hid (Below wr.heap.size wr U ∧ U.heap[g]? = some (.cells #[.int .i64 kind, .slice oa ln occ, .int .i64 m, .int .i64 k1, .int .i64 k2] 40 (0, 0))) := by
            rw [hU, hg]
            exact ⟨(Below.refl _ _).alloc (Nat.le_refl _) _, heap_alloc_new _ _ rfl⟩
          have HUB : Hid (Below w.heap.size w U) := HX.out.2.2.2.trans (HU.out.1.mono HX.out.2.2.2.size)
          have HUA := hidC (HX.out.2.2.1.kept HU.out.1)
          have HUR : Hid (RWs (fun k => w.heap.size ≤ k) U oa L) := HOc.out.ws.fr (Fr.ofBelow HU.out.1)
          have HOK : Hid (OcOK ⟨kind, oa, occ, L, m, (k1, k2)⟩) := ⟨HPi.out.1, HPi.out.2, HIo.out.1, HIo.out.2.1⟩
          have HSn : Hid (s.la = la ∧ s.all.length = ch) := ⟨HX.out.1, HX.out.2.1⟩
          have HCell : Hid (∀ W, Below U.heap.size U W → W.cell? ⟨g, 1, none⟩ = some (.slice oa ln occ)) := fun W hW => by
            have h1 : W.heap[g]? = _ := (hW.block _ (blk_lt HU.out.2)).trans HU.out.2
            simp [World.cell?, h1]
          clear HX HOc HPi HIo HU
          by_cases h0 : kind = 0
          · subst h0
            go_wp2_with fail
            rw [← hU, ← hg]
            clear hU hg c0 c1 c2 c3 c4
            refine (weightL_any _ U oa ln occ L HLn.out HUR.out (fun s hs => Nat.le_trans (HOK.out.each s hs) (by omega)) (by have h1 := HOK.out.len; have := HLn.out; simp only at h1; omega)).mono ?_
            rintro e U2 ⟨rfl, hb2⟩
            have HA2 := hidC (HUA.out.kept hb2)
            have HR2 := hidC (HUR.out.fr (Fr.ofBelow hb2))
            have HB2 : Hid (Below w.heap.size w U2) := HUB.out.trans (hb2.mono HUB.out.size)
            have q1 := HCell.out U2 hb2
            clear hb2
            obtain ⟨we, hwe⟩ : ∃ we, we = wgtE L := ⟨_, rfl⟩
            rw [← hwe]
            have HWe := hidC hwe
            clear hwe
            go_wp2_with fail
            refine (lentW_any _ U2 oa ln occ L HLn.out HR2.out (by have h1 := HOK.out.len; have := HLn.out; simp only at h1; omega) HOK.out.each).mono ?_
            rintro e U3 ⟨a, c', rfl, hr3, hb3⟩
            have HR3 : Hid (RWs (SB B Mp Mc Mn) U3 a L) := hr3.weak (fun k hk => HA2.out.lt hk)
            have HA3 := hidC (HA2.out.kept hb3)
            have HB3 : Hid (Below w.heap.size w U3) := HB2.out.trans (hb3.mono HB2.out.size)
            clear hr3 hb3 q1
            have HAd := hidC (admit_any U3 B Mp Mc Mn cap s.la s.fl s.pins s.all nw HA3.out a ln c' L HLn.out HR3.out HOK.out.ik (fun s hs => Nat.le_trans (HOK.out.each s hs) (by omega)) (by have h1 := HOK.out.len; have := HLn.out; simp only at h1; omega))
            have hcs := adm_cases cap s.la s.all L (by have := HSn.out.1; omega)
            rw [HSn.out.2, ← HWe.out] at hcs
            go_wp2_with fail
            refine HAd.out.mono ?_
            rintro e U4 (⟨hne, rfl, hb4⟩ | ⟨heq, rfl, ⟨nw4, hba4⟩, hf4⟩)
            · have HZ : Hid (∃ (s : Bs) (nw : List K), s.la = la ∧ s.all.length = ch ∧ BA U4 B Mp Mc Mn cap s.la s.fl s.pins s.all nw ∧ Below w.heap.size w U4) := ⟨s, nw, HSn.out.1, HSn.out.2, HA3.out.kept hb4, HB3.out.trans (hb4.mono HB3.out.size)⟩
              clear hb4 HAd HWe
              generalize admE cap s.la s.all L = E at *
              rcases hcs with ⟨rfl, hE0, hE1⟩ | ⟨gg, hg1, rfl, hg3, ⟨hg4, rfl⟩ | ⟨_, hz⟩⟩
              · have e0 : (E == 0) = false := by simpa using hE0
                have e1 : (E == 100) = false := by simpa using hE1
                go_wp2_with fail
                refine (numB_any U4 E).mono ?_
                rintro e U5 ⟨rfl, hw5⟩
                subst hw5
                go_wp2_with fail
                refine (numB_any _ E).mono ?_
                rintro e U6 ⟨rfl, hw6⟩
                subst hw6
                obtain ⟨s', nw', z1, z2, z3, z4⟩ := HZ.out
                have HCh := hidC (tail_ch (x := (ch : Int)) z3 (by omega))
                have HLa := hidC (tail_la (y := la) z3 z1)
                clear z1 z2 z3 z4
                go_wp2_with fail
                refine HCh.out.mono ?_
                rintro e Wt ⟨rfl, hwt⟩
                subst hwt
                clear HCh
                go_wp2_with fail
                refine HLa.out.mono ?_
                rintro e Wt ⟨rfl, hwt⟩
                subst hwt
                clear HLa
                go_wp2_with fail
                exact ⟨⟨i + 1, ch, la, by omega, by go_num, by first | rfl | go_num | (simp; done), rfl, by omega, by omega, by omega, HZ.out⟩, by simp [intOf]; omega⟩
              · have hgn : (0 : Int) ≤ (gg : Int) := by omega
                have hgc : ¬ ((ch : Int) + (gg : Int) ≤ cap) := by omega
                go_wp2_with fail
                refine (numB_any U4 100).mono ?_
                rintro e U5 ⟨rfl, hw5⟩
                subst hw5
                go_wp2_with fail
                refine (numB_any _ 100).mono ?_
                rintro e U6 ⟨rfl, hw6⟩
                subst hw6
                obtain ⟨s', nw', z1, z2, z3, z4⟩ := HZ.out
                have HCh := hidC (tail_ch (x := (ch : Int)) z3 (by omega))
                have HLa := hidC (tail_la (y := la) z3 z1)
                clear z1 z2 z3 z4
                go_wp2_with fail
                refine HCh.out.mono ?_
                rintro e Wt ⟨rfl, hwt⟩
                subst hwt
                clear HCh
                go_wp2_with fail
                refine HLa.out.mono ?_
                rintro e Wt ⟨rfl, hwt⟩
                subst hwt
                clear HLa
                go_wp2_with fail
                exact ⟨⟨i + 1, ch, la, by omega, by go_num, by first | rfl | go_num | (simp; done), rfl, by omega, by omega, by omega, HZ.out⟩, by simp [intOf]; omega⟩
              · exact absurd hz hne
            · rcases hcs with ⟨_, hE0, _⟩ | ⟨gg, hg1, hwg, hg3, ⟨_, hE⟩ | ⟨hg4, _⟩⟩
              · exact absurd heq hE0
              · rw [heq] at hE
                cases hE
              · have HZ : Hid (∃ (s : Bs) (nw : List K), s.la = la + 1 ∧ s.all.length = ch + gg ∧ BA U4 B Mp Mc Mn cap s.la s.fl s.pins s.all nw ∧ Below w.heap.size w U4) := by
                  refine ⟨⟨s.la + 1, s.fl, s.pins, s.all ++ newFrom (s.la + 1) 0 L⟩, nw4, by show s.la + 1 = la + 1; rw [HSn.out.1], ?_, hba4, HB3.out.trans (hf4.below HB3.out.size HS.out)⟩
                  show (s.all ++ newFrom (s.la + 1) 0 L).length = ch + gg
                  rw [List.length_append, newFrom_len, HSn.out.2, hg3]
                clear hba4 hf4 HAd HWe heq hg3
                subst hwg
                rw [HSn.out.1]
                have hgn : (0 : Int) ≤ (gg : Int) := by omega
                go_wp2_with fail
                refine (numB_any U4 0).mono ?_
                rintro e U5 ⟨rfl, hw5⟩
                subst hw5
                go_wp2_with fail
                refine (numB_any _ 0).mono ?_
                rintro e U6 ⟨rfl, hw6⟩
                subst hw6
                obtain ⟨s', nw', z1, z2, z3, z4⟩ := HZ.out
                have HCh := hidC (tail_ch (x := (ch : Int) + (gg : Int)) z3 (by omega))
                have HLa := hidC (tail_la (y := la + 1) z3 z1)
                clear z1 z2 z3 z4
                go_wp2_with fail
                refine HCh.out.mono ?_
                rintro e Wt ⟨rfl, hwt⟩
                subst hwt
                clear HCh
                go_wp2_with fail
                refine HLa.out.mono ?_
                rintro e Wt ⟨rfl, hwt⟩
                subst hwt
                clear HLa
                go_wp2_with fail
                exact ⟨⟨i + 1, ch + gg, la + 1, by omega, by go_num, by first | rfl | go_num | (simp; done), rfl, by omega, by omega, by omega, HZ.out⟩, by simp [intOf]; omega⟩
          · have h0b : (kind == 0) = false := by simpa using h0
            by_cases h3 : kind = 3
            · subst h3
              go_wp2_with fail
              rw [← hU, ← hg]
              clear hU hg c0 c1 c2 c3 c4
              refine (collect_any U B Mp Mc Mn cap s.la s.fl s.pins s.all nw HUA.out).mono ?_
              rintro e U3 ⟨d, all', hd1, hd2, hcn, rfl, hba, hf3⟩
              have hle := hcn.1.length_le
              obtain ⟨ch', hch'⟩ : ∃ ch', ch' = all'.length := ⟨_, rfl⟩
              rw [HSn.out.2, ← hch'] at hle
              rw [HSn.out.2, ← hch']
              have HZ : Hid (∃ (s : Bs) (nw : List K), s.la = la ∧ s.all.length = ch' ∧ BA U3 B Mp Mc Mn cap s.la s.fl s.pins s.all nw ∧ Below w.heap.size w U3) := ⟨⟨s.la, s.la, s.pins, all'⟩, nw, HSn.out.1, hch'.symm, hba, HUB.out.trans (hf3.below HUB.out.size HS.out)⟩
              clear hba hf3 hd1 hd2 hcn hch'
              have hn0 : ¬ ((ch : Int) - (ch' : Int) < 0) := by omega
              have hn1 : ¬ ((ch : Int) < (ch : Int) - (ch' : Int)) := by omega
              have hn2 : (ch : Int) - ((ch : Int) - (ch' : Int)) = (ch' : Int) := by omega
              obtain ⟨s', nw', z1, z2, z3, z4⟩ := HZ.out
              have HCh := hidC (tail_ch (x := (ch : Int) - ((ch : Int) - (ch' : Int))) z3 (by omega))
              have HLa := hidC (tail_la (y := la) z3 z1)
              clear z1 z2 z3 z4
              go_wp2_with fail
              refine HCh.out.mono ?_
              rintro e Wt ⟨rfl, hwt⟩
              subst hwt
              clear HCh
              go_wp2_with fail
              refine HLa.out.mono ?_
              rintro e Wt ⟨rfl, hwt⟩
              subst hwt
              clear HLa
              go_wp2_with fail
              exact ⟨⟨i + 1, ch', la, by omega, by go_num, by first | rfl | go_num | (simp; done), rfl, by omega, by omega, by omega, HZ.out⟩, by simp [intOf]; omega⟩
            · have h3b : (kind == 3) = false := by simpa using h3
              go_wp2_with fail
              rw [← hU, ← hg]
              clear hU hg c0 c1 c2 c3 c4
              have HD := hidC (do_any _ U B Mp Mc Mn cap s nw HUA.out ⟨kind, oa, occ, L, m, (k1, k2)⟩ HOK.out HUR.out)
              unfold opv at HD
              simp only at HD
              rw [← HLn.out] at HD
              refine HD.out.mono ?_
              rintro e U3 ⟨rr, s3, nw3, rfl, hdo, hba, hf3⟩
              have HZ : Hid (∃ (s : Bs) (nw : List K), s.la = la ∧ s.all.length = ch ∧ BA U3 B Mp Mc Mn cap s.la s.fl s.pins s.all nw ∧ Below w.heap.size w U3) := by
                refine ⟨s3, nw3, ?_, ?_, hba, HUB.out.trans (hf3.below HUB.out.size HS.out)⟩
                · have := HSn.out.1
                  cases hdo <;> first | exact this | (rename_i hk _; exact absurd hk h0) | (rename_i hk _ _ _; exact absurd hk h3)
                · have := HSn.out.2
                  cases hdo <;> first | exact this | (rename_i hk _; exact absurd hk h0) | (rename_i hk _ _ _; exact absurd hk h3)
              clear hba hf3 hdo HD
              obtain ⟨s', nw', z1, z2, z3, z4⟩ := HZ.out
              have HCh := hidC (tail_ch (x := (ch : Int)) z3 (by omega))
              have HLa := hidC (tail_la (y := la) z3 z1)
              clear z1 z2 z3 z4
              go_wp2_with fail
              refine HCh.out.mono ?_
              rintro e Wt ⟨rfl, hwt⟩
              subst hwt
              clear HCh
              go_wp2_with fail
              refine HLa.out.mono ?_
              rintro e Wt ⟨rfl, hwt⟩
              subst hwt
              clear HLa
              go_wp2_with fail
              exact ⟨⟨i + 1, ch, la, by omega, by go_num, by first | rfl | go_num | (simp; done), rfl, by omega, by omega, by omega, HZ.out⟩, by simp [intOf]; omega⟩
        · have HBz : Hid (Below w.heap.size w wr) := by
            obtain ⟨_, _, _, _, _, h⟩ := HR.out
            exact h
          clear HR
          go_wp2
          go_ret
          exact ⟨rfl, HBz.out⟩
end Go.Proofs.Ytgejibjmmfklcab
