/-
  SchedRests: THE LAW.
-/
import Derived.Test.YteobmijfbjgccaaZWorks
namespace Go.Proofs.Yteobmijfbjgccaa
open Go.RowKit Go.Sort

/-- chores of which all stand in the line -/
structure AllZ (n : Nat) (B : Nat → List Int) (nt : Nat) (ts : Nat → Int) : Prop where
  bi : ∀ i, i < n → ∀ z ∈ B i, z < (i : Int)
  on : ∀ c, c < n → ∃ p, p < nt ∧ ts p = (c : Int)
  tz : ∀ p, p < nt → ts p < (n : Int)
theorem AllZ.rest {n nt : Nat} {B : Nat → List Int} {ts : Nat → Int} (h : AllZ n B nt ts) (ls : Nat → Nat) : plcZ ls B nt ts = [] ↔ totZ n ls = 0 := by
  constructor
  · intro h0
    by_cases e : totZ n ls = 0
    · exact e
    · obtain ⟨i, hi, hr⟩ := rdZ_first h.bi e
      obtain ⟨p, hp, hpt⟩ := h.on i hi
      have : p ∈ plcZ ls B nt ts := plcZ_mem.2 ⟨hp, by simp [rtZ, hpt, hr]⟩
      rw [h0] at this
      simp at this
  · intro h0
    rw [List.eq_nil_iff_forall_not_mem]
    intro p hp
    obtain ⟨h1, h2⟩ := plcZ_mem.1 hp
    obtain ⟨h3, h4⟩ := rtZ_pos h2
    have h5 := (rdZ_pos h4).1
    exact h5 (totZ_zero h0 _ (by have := h.tz p h1; omega))
theorem AllZ.took {n nt : Nat} {B : Nat → List Int} {ts : Nat → Int} (h : AllZ n B nt ts) {ls : Nat → Nat} {x : Int} {p : Nat} (hp : tkP ls B nt ts x = some p) : totZ n (decZ ls (ts p).toNat) + 1 = totZ n ls := by
  obtain ⟨h1, h2⟩ := tkP_some hp
  obtain ⟨h3, h4⟩ := rtZ_pos h2
  exact totZ_dec (by have := h.tz p h1; omega) (rdZ_pos h4).1
theorem AllZ.drains {n nt : Nat} {B : Nat → List Int} {ts : Nat → Int} (h : AllZ n B nt ts) (m : Nat) (ls : Nat → Nat) : drK B nt ts m ls = min m (totZ n ls) ∧ totZ n (drL B nt ts m ls) + drK B nt ts m ls = totZ n ls := by
  induction m generalizing ls with
  | zero => simp [drK, drL]
  | succ m ih =>
    cases hp : tkP ls B nt ts 0 with
    | none =>
      obtain ⟨h1, h2⟩ := drL_none (B := B) (nt := nt) (ts := ts) (m + 1) hp
      have h0 := (h.rest ls).1 (tkP_none.1 hp)
      rw [h1, h2, h0]
      simp
    | some p =>
      obtain ⟨h1, h2⟩ := drL_some (B := B) (nt := nt) (ts := ts) m hp
      have h0 := h.took hp
      obtain ⟨h3, h4⟩ := ih (decZ ls (ts p).toNat)
      rw [h1, h2]
      omega
theorem AllZ.ofL {L : List Mk} {turn : Int} : AllZ L.length (blM L) L.length (tsM L.length turn) := by
  refine ⟨fun i hi z hz => ?_, fun c hc => tsM_onto turn hc, fun p hp => (tsM_range (by omega)).2⟩
  unfold blM at hz
  by_cases h0 : i = 0
  · rw [if_pos h0] at hz; simp at hz
  · rw [if_neg h0] at hz
    obtain ⟨y, _, rfl⟩ := List.mem_map.1 hz
    exact (wiZ_range (by omega)).2
/-- what stays of what line hands out -/
structure RS (w : World) (n : Nat) (B : Nat → List Int) (ts : Nat → Int) (lo : Option Addr) (lc : Nat) (cb : Nat → Nat) (X : Nat → Prop) (lb : Nat) (ao : Option Addr) (tc : Nat) (wr : World) (lr : Nat → Nat) (k : Nat) : Prop where
  sl : SL wr n cb lr B X lb ao n tc ts k
  ow : OwZ w.heap.size 44 wr lo n lc ((List.range n).map (fun (j : Nat) => ptZ (cb j)))
  bl : RowKit.Below w.heap.size w wr
  xn : ∀ j, X j ∨ j = lb → w.heap.size ≤ j
  nx : ∀ g, lo = some g → ¬ (X g.block ∨ g.block = lb)
section
variable {w wr w' : World} {n : Nat} {B : Nat → List Int} {ts : Nat → Int} {lo : Option Addr} {lc : Nat} {cb : Nat → Nat} {X : Nat → Prop} {lb : Nat} {ao : Option Addr} {tc : Nat} {lr lr' : Nat → Nat} {k k' : Nat}
theorem RS.go (h : RS w n B ts lo lc cb X lb ao tc wr lr k) (hs : SL w' n cb lr' B X lb ao n tc ts k') (hf : FrZ (fun j => X j ∨ j = lb) wr w') : RS w n B ts lo lc cb X lb ao tc w' lr' k' :=
  ⟨hs, h.ow.kept (fun g hg => hf.block _ (h.ow.lt g hg).2 (h.nx g hg)), h.bl.trans (hf.below h.bl.size h.xn), h.xn, h.nx⟩
theorem RS.kept (h : RS w n B ts lo lc cb X lb ao tc wr lr k) (hb : RowKit.Below wr.heap.size wr w') : RS w n B ts lo lc cb X lb ao tc w' lr k := h.go (h.sl.kept hb) (FrZ.ofBelow hb)
end
theorem LinP.rs {w w' : World} {L : List Mk} {turn : Int} {e : Ending} (h : LinP w L turn e w') : ∃ lo lc cb X lb ao tc, e = .returned (.tuple #[.slice lo L.length lc, ptZ lb]) ∧ RS w L.length (blM L) (tsM L.length turn) lo lc cb X lb ao tc w' (lsM L) 0 := by
  obtain ⟨lo, lc, cb, X, lb, ao, tc, rfl, h1, h2, h3, _⟩ := h
  refine ⟨lo, lc, cb, X, lb, ao, tc, rfl, h2, h1.ow, h1.bl, fun j hj => ?_, fun g hg hx => ?_⟩
  · rcases hj with hj | rfl
    · exact h1.xn j hj
    · exact h3
  · rcases hx with hx | hx
    · exact h1.nx g hg hx
    · obtain ⟨C, hC⟩ := h1.ow.ty g hg
      rw [hx, h2.ln.ln] at hC
      cases hC
set_option maxRecDepth 100000 in
set_option maxHeartbeats 8000000 in
theorem law_rests (w : World) (ao po : Option Addr) (n ca m cp : Nat) (L : List Mk) (turn : Int) (ps : List Int) (h : MksAt w ao L) (hn : n = L.length) (hnb : n ≤ 20000000000000) (hp : WAt w po (i64s ps)) (hm : m = ps.length) (hb : m ≤ 20000000000000) :
    Calls Try.prog 7 #[.slice ao n ca, .int .i64 turn, .slice po m cp] w fun e w' => e = .returned (.bool true) ∧ RowKit.Below w.heap.size w w' := by
  have HL := hidW h
  have HN := hidW hn
  have HP := hidW hp
  have HM := hidW hm
  have HPt := hidW (parts_any w ao none n 0 ca 0 L [] h (OqsAt.nil _ _) hn rfl hnb (by omega))
  clear h hn hp hm
  go_enter Try.func7, Try.ntmps7
  go_wp2_with fail
  refine HPt.out.mono ?_
  rintro e wx ⟨r, rfl, hwx, hr⟩
  have hwx' := hwx.symm
  subst hwx'
  have HPP := hidW hr
  clear hwx HPt hr
  by_cases hr0 : r < 0
  · go_wp2
    go_ret
    exact ⟨rfl, Below.refl _ _⟩
  · have hpts : ptsM L ≤ 100000 := by have := HPP.out hr0; omega
    have hn1 : n ≤ 100000 := by have := ptsM_len L; have := HN.out; omega
    have HPS := hidW hpts
    clear hpts HPP
    go_wp2_with fail
    refine (works_any w).mono ?_
    rintro e w1 ⟨rfl, hb1⟩
    have HB1 := hidW hb1
    clear hb1
    have HTt := hidW (total_any w1 ao n ca L (HL.out.below HB1.out) HN.out (by omega))
    have HLi := hidW (line_any w1 ao n ca L turn (HL.out.below HB1.out) HN.out HPS.out)
    have htl := ttM_le L
    rw [← HN.out] at htl
    have HNt : Hid (totZ n (lsM L) = ttM L) := by show _ = _; rw [HN.out]; exact totM L
    generalize ttM L = N at *
    go_wp2_with fail
    refine HTt.out.mono ?_
    rintro e wx ⟨rfl, hwx⟩
    have hwx' := hwx.symm
    subst hwx'
    clear hwx HTt
    go_wp2_with fail
    refine HLi.out.mono ?_
    intro e w2 hl
    obtain ⟨lo, lc, cb, X, lb, bo, tc, rfl, hrs⟩ := hl.rs
    rw [← HN.out] at hrs
    have HR0 := hidW hrs
    have HAl := hidW (AllZ.ofL (L := L) (turn := turn))
    rw [← HN.out] at HAl
    rw [← HN.out]
    clear hl hrs HLi
    obtain ⟨B, hB⟩ : ∃ B, B = blM L := ⟨_, rfl⟩
    obtain ⟨ts, hts⟩ : ∃ ts, ts = tsM n turn := ⟨_, rfl⟩
    rw [← hB, ← hts] at HR0 HAl
    clear hB hts
    go_wp2_with fail
    go_loopw [10, 11, 12] (fun x y _ wr => ∃ (i d : Nat) (lr : Nat → Nat), i ≤ m ∧ y = .int .i64 (i : Int) ∧ x = .int .i64 (d : Int) ∧ Hid (RS w1 n B ts lo lc cb X lb bo tc wr lr d) ∧ Hid (totZ n lr + d = N)) (fun _ y _ _ => m - (intOf y).toNat)
    case atStart => exact ⟨0, 0, lsM L, Nat.zero_le _, rfl, rfl, HR0, HNt.out⟩
    case round =>
      clear HR0 HNt
      obtain ⟨i, d, lr, hi, rfl, rfl, HR, HT⟩ := hrel
      by_cases hlt : i < m
      · have hil : i < ps.length := by have := HM.out; omega
        obtain ⟨g, off, rfl, e1⟩ := (HP.out.below (HB1.out.trans (HR.out.bl.mono HB1.out.size))).int i hil
        generalize ps[i] = x at *
        have HTk := hidW (take_any HR.out.sl x)
        cases hp : tkP lr B n ts x with
        | none =>
          have hp0 := tkP_none.1 hp
          have h0 := (HAl.out.rest lr).1 hp0
          have hd : d = N := by have := HT.out; omega
          rw [hp] at HTk
          have hd1 : ¬ (d : Int) < (N : Int) := by omega
          have hd2 : ¬ (d : Int) + 1 < (N : Int) := by omega
          have hd3 : (d : Int) ≤ 10000000000 := by omega
          replace hd := hidW hd
          have HP0 := hidW hp0
          clear hp hp0 h0
          go_wp2_with fail
          refine HTk.out.mono ?_
          rintro e w3 ⟨rfl, h1, h2⟩
          have HR2 := hidW (HR.out.go h1 h2)
          simp only [tkA, tkL, tkK, Nat.add_zero] at HR2 ⊢
          clear h1 h2 HTk HR
          have HRd := hidW (lready_any HR2.out.sl)
          rw [HP0.out] at HRd
          go_wp2_with fail
          refine HRd.out.mono ?_
          rintro e w4 ⟨ro, rc, rfl, _, hb4⟩
          have HR3 := hidW (HR2.out.kept hb4)
          simp only [List.length_nil]
          clear hb4 HRd HR2
          go_wp2_with fail
          go_roundw
          case rel => exact ⟨i + 1, d, lr, by omega, by go_num, rfl, HR3, HT⟩
          case measure => simp [intOf]; omega
        | some p =>
          have hk := HAl.out.took hp
          have hd1 : (d : Int) < (N : Int) := by have := HT.out; omega
          have HT2 : Hid (totZ n (decZ lr (ts p).toNat) + (d + 1) = N) := by have := HT.out; show _ = _; omega
          have HRs := hidW (HAl.out.rest (decZ lr (ts p).toNat))
          have hd3 : (d : Int) ≤ 10000000000 := by omega
          have hp0 : (0 : Int) ≤ (p : Int) := by omega
          rw [hp] at HTk
          clear hp hk
          go_wp2_with fail
          refine HTk.out.mono ?_
          rintro e w3 ⟨rfl, h1, h2⟩
          have HR2 := hidW (HR.out.go h1 h2)
          simp only [tkA, tkL, tkK] at HR2 ⊢
          generalize decZ lr (ts p).toNat = lr' at *
          clear h1 h2 HTk HR
          have HRd := hidW (lready_any HR2.out.sl)
          by_cases hlast : totZ n lr' = 0
          · rw [HRs.out.2 hlast] at HRd
            have hd2 : ¬ (d : Int) + 1 < (N : Int) := by have := HT2.out; omega
            clear hlast
            go_wp2_with fail
            refine HRd.out.mono ?_
            rintro e w4 ⟨ro, rc, rfl, _, hb4⟩
            have HR3 := hidW (HR2.out.kept hb4)
            simp only [List.length_nil]
            clear hb4 HRd HR2
            go_wp2_with fail
            go_roundw
            case rel => exact ⟨i + 1, d + 1, lr', by omega, by go_num, by go_num, HR3, HT2⟩
            case measure => simp [intOf]; omega
          · have hd2 : (d : Int) + 1 < (N : Int) := by have := HT2.out; omega
            have hne : plcZ lr' B n ts ≠ [] := fun h => hlast (HRs.out.1 h)
            have hl0 : 0 < (plcZ lr' B n ts).length := List.length_pos_iff.2 hne
            have hl1 : (plcZ lr' B n ts).length ≤ 100000 := Nat.le_trans (plcZ_len _ _ _ _) hn1
            obtain ⟨lp, hlp⟩ : ∃ lp, lp = (plcZ lr' B n ts).length := ⟨_, rfl⟩
            have HRd2 : Hid (∀ e w4, RdP w3 (plcZ lr' B n ts) e w4 → ∃ ro rc, e = .returned (.slice ro lp rc) ∧ RowKit.Below w3.heap.size w3 w4) := by
              rintro e w4 ⟨ro, rc, rfl, _, hb4⟩
              exact ⟨ro, rc, by rw [hlp], hb4⟩
            rw [← hlp] at hl0 hl1
            clear hlast hne hlp
            have hl2 : (0 : Int) < (lp : Int) := by omega
            go_wp2_with fail
            refine HRd.out.mono ?_
            intro e w4 hh
            obtain ⟨ro, rc, rfl, hb4⟩ := HRd2.out e w4 hh
            have HR3 := hidW (HR2.out.kept hb4)
            clear hh hb4 HRd HR2 HRd2
            go_wp2_with fail
            go_roundw
            case rel => exact ⟨i + 1, d + 1, lr', by omega, by go_num, by go_num, HR3, HT2⟩
            case measure => simp [intOf]; omega
      · obtain rfl : i = m := by omega
        have hdN : d ≤ N := by have := HT.out; omega
        obtain ⟨q, hq⟩ : ∃ q : Nat, N = d + q := ⟨N - d, by omega⟩
        have hqi : (N : Int) - (d : Int) = (q : Int) := by omega
        have hN1 : ((N : Int) + 1).toNat = N + 1 := by omega
        have hNb : (N : Int) ≤ 10000000000 := by omega
        obtain ⟨hk1, hk2⟩ := HAl.out.drains (N + 1) lr
        have hkq : drK B n ts (N + 1) lr = q := by rw [hk1]; have := HT.out; omega
        have hz1 : totZ n (drL B n ts (N + 1) lr) = 0 := by have := HT.out; omega
        have HD1 := hidW (drain_any HR.out.sl ((N : Int) + 1))
        rw [hN1, hkq] at HD1
        generalize drL B n ts (N + 1) lr = l1 at *
        have HP0 := hidW ((HAl.out.rest l1).2 hz1)
        have HZ := hidW hz1
        clear hk1 hk2 hkq hz1 hN1
        have HQ := hidW hq
        clear hq
        go_wp2_with fail
        refine HD1.out.mono ?_
        rintro e w3 ⟨rfl, h1, h2⟩
        have HR1 := hidW (HR.out.go h1 h2)
        clear h1 h2 HD1 HR
        have HD2 := hidW (drain_any HR1.out.sl 1)
        have hT0 : tkP l1 B n ts 0 = none := tkP_none.2 HP0.out
        obtain ⟨hk1, hk2⟩ := drL_none (B := B) (nt := n) (ts := ts) (1 : Int).toNat hT0
        rw [hk1, hk2] at HD2
        have HT0 := hidW hT0
        clear hk1 hk2 hT0
        go_wp2_with fail
        refine HD2.out.mono ?_
        rintro e w4 ⟨rfl, h1, h2⟩
        have HR2 := hidW (HR1.out.go h1 h2)
        clear h1 h2 HD2 HR1
        simp only [show ((0 : Nat) : Int) = 0 from rfl, Nat.add_zero] at HR2 ⊢
        have HT1 := hidW (take_any HR2.out.sl 0)
        rw [HT0.out] at HT1
        go_wp2_with fail
        refine HT1.out.mono ?_
        rintro e w5 ⟨rfl, h1, h2⟩
        have HR3 := hidW (HR2.out.go h1 h2)
        clear h1 h2 HT1 HR2
        simp only [tkA, tkL, tkK, Nat.add_zero] at HR3 ⊢
        have HSt := hidW (steps_any HR3.out.sl)
        rw [show ((d + q : Nat) : Int) = (N : Int) by rw [HQ.out]] at HSt
        go_wp2_with fail
        refine HSt.out.mono ?_
        rintro e wx ⟨rfl, hwx⟩
        have hwx' := hwx.symm
        subst hwx'
        clear hwx
        have HEn := hidW (lended_any HR3.out.sl.ci (fun i hi => totZ_zero HZ.out i hi) lo lc HR3.out.ow.at_ (by omega))
        have HBf : Hid (RowKit.Below w.heap.size w w5) := HB1.out.trans (HR3.out.bl.mono HB1.out.size)
        clear HR3 HSt
        go_wp2_with fail
        refine HEn.out.mono ?_
        rintro e wx ⟨rfl, hwx⟩
        have hwx' := hwx.symm
        subst hwx'
        clear hwx
        go_wp2
        go_ret
        exact ⟨rfl, HBf.out⟩
end Go.Proofs.Yteobmijfbjgccaa
