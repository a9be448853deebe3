import Derived.Test.YtibdogniiglcjaaGreatJBkStepH
import Derived.Deep.RegionHeld3
/-
  step: Versions; WHAT LIES BESIDE IT IS KEPT.
-/
namespace Go.Proofs.YtibdogniiglcjaaGreat
open Go.RowKit Go.Sort

/-- lists of keys are as they were -/
def KyK (w w' : World) : Prop := ∀ (k : Nat) (cs : Array Value) (z : Nat × Nat), w.heap[k]? = some (.cells cs 47 z) → w'.heap[k]? = w.heap[k]?
def StK (n0 P B Mp Mc Mn R : Nat) (cap : Int) (cnt : Nat) (wr : World) (e : Ending) (w' : World) : Prop := StP n0 P B Mp Mc Mn R cap cnt wr e w' ∧ KyK wr w'
set_option maxHeartbeats 4000000 in
set_option maxRecDepth 100000 in
theorem step7k_any (n0 P B Mp Mc Mn R : Nat) (cap : Int) (cnt : Nat) (st sd : Bs) (nw : List K) (av pv : Value) (rv : Nat → Value) (wr : World) (hj : PJ n0 P B Mp Mc Mn R cap cnt st sd nw av pv rv wr) (hs : Syn st sd) (hct : cnt ≤ 900000) (oa : Option Addr) (ln oc : Nat) (m k1 k2 : Int) (hk : KIn (k1, k2)) :
    Calls Tryz.prog 13 #[ptr P, .agg #[.int .i64 7, .slice oa ln oc, .int .i64 m, .int .i64 k1, .int .i64 k2]] wr fun e w' => StK n0 P B Mp Mc Mn R cap cnt wr e w' := by
  obtain ⟨U, hU⟩ : ∃ U, U = wr.alloc (.cells #[.int .i64 7, .slice oa ln oc, .int .i64 m, .int .i64 k1, .int .i64 k2] 49) := ⟨_, rfl⟩
  obtain ⟨g, hg⟩ : ∃ g, g = wr.heap.size := ⟨_, rfl⟩
  have hbU : Below wr.heap.size wr U := by rw [hU]; exact (Below.refl _ _).alloc (Nat.le_refl _) _
  have HJU := hidC (hj.kept hbU)
  obtain ⟨cs, hcs⟩ : ∃ cs : Array Value, cs = #[.int .i64 7, .slice oa ln oc, .int .i64 m, .int .i64 k1, .int .i64 k2] := ⟨_, rfl⟩
  have HXU : Hid (BXp g cs U) := by rw [hU, hg, hcs]; exact heap_alloc_new _ _ rfl
  have HBU : Hid (Below n0 wr U) := hbU.mono hj.n0s
  have HFU := hidC hbU
  have HPl := hidC (hj.pl hs)
  have HS := hidC hs
  have HXc : Hid (∀ W, BXp g cs W → W.cell? ⟨g, 0, none⟩ = some (.int .i64 7) ∧ W.cell? ⟨g, 3, none⟩ = some (.int .i64 k1) ∧ W.cell? ⟨g, 4, none⟩ = some (.int .i64 k2)) := fun W hW => by
    unfold BXp at hW
    rw [hcs] at hW
    refine ⟨?_, ?_, ?_⟩ <;> simp [World.cell?, hW]
  have HK := hidC hk
  clear hj hs hbU hcs hk
  obtain ⟨x0, x3, x4⟩ := HXc.out U HXU.out
  obtain ⟨p0, p1, _⟩ := HJU.out.cells
  go_enter Tryz.func13, Tryz.ntmps13
  have HVb : Hid (∀ W, PJ n0 P B Mp Mc Mn R cap cnt st sd nw av pv rv W → Calls Tryz.prog 38 #[ptr B, .agg #[.int .i64 k1, .int .i64 k2]] W fun e w' => ∃ la lm lc, e = .returned (.slice la lm lc) ∧ lm = (plk (ofV (k1, k2) st.all)).length ∧ w'.ownsRow W.heap.size 102 2 (.slice la lm lc) (plk (ofV (k1, k2) st.all)).length (cks (plk (ofV (k1, k2) st.all))) ∧ Below W.heap.size W w') := fun W hW => by
    refine (versions_any W B Mp Mc Mn cap st.la st.fl st.pins st.all nw hW.ba (k1, k2) HK.out).mono ?_
    rintro e w' ⟨v, rfl, ho, hb⟩
    obtain ⟨la, lm, lc, rfl, hlm⟩ := rowOpenD ho
    exact ⟨la, lm, lc, rfl, hlm, ho, hb⟩
  have HVr : Hid (∀ W, PJ n0 P B Mp Mc Mn R cap cnt st sd nw av pv rv W → Calls Tryz.prog 39 #[ptr R, .agg #[.int .i64 k1, .int .i64 k2]] W fun e w' => ∃ ma mc, e = .returned (.slice ma (ofV (k1, k2) sd.all).length mc) ∧ (ofV (k1, k2) sd.all).length = (plk (ofV (k1, k2) sd.all)).length ∧ w'.ownsRow W.heap.size 102 2 (.slice ma (ofV (k1, k2) sd.all).length mc) (ofV (k1, k2) sd.all).length (cks (plk (ofV (k1, k2) sd.all))) ∧ Below W.heap.size W w') := fun W hW => rversions_any W n0 R cap sd.la sd.fl av pv sd.all sd.pins hW.rb HPl.out.2.1 (k1, k2)
  obtain ⟨LL, hLL⟩ : ∃ LL : List K, LL = plk (ofV (k1, k2) sd.all) := ⟨_, rfl⟩
  have HLL := hidC hLL
  have HLl : Hid (LL.length ≤ 8796093022208) := by
    show _ ≤ _
    rw [hLL]
    have h1 : (plk (ofV (k1, k2) sd.all)).length ≤ sd.all.length := by simp [plk]; exact List.length_filter_le _ _
    have := HPl.out.2.1
    omega
  clear hLL
  go_upto_region 28 with fail
  rw [← hU, ← hg]
  clear hU hg
  have HDr : Hid (Below U.heap.size U U.drew) := drew_below U 1
  have HJd := hidC (HJU.out.kept HDr.out)
  have HXd := hidC (HXU.out.kept HDr.out)
  have HBd : Hid (Below n0 wr U.drew) := HBU.out.trans (HDr.out.mono HJU.out.n0s)
  have HFd : Hid (Below wr.heap.size wr U.drew) := HFU.out.trans (HDr.out.mono HFU.out.size)
  have HC1 := hidC (HVb.out U.drew HJd.out)
  go_region_held3 (fun w' => w'.cell? ⟨P, 0, none⟩ = some (ptr B) ∧ w'.cell? ⟨g, 3, none⟩ = some (.int .i64 k1) ∧ w'.cell? ⟨g, 4, none⟩ = some (.int .i64 k2)) (first | with_reducible exact HQ3.out | go_keep) (first
    | (go_at_call 38; with_reducible refine HC1.out.mono ?_; rintro e W3 ⟨la, lm, lc, rfl, hlm, ho3, hb3⟩; have HJ3 := hidC (HJd.out.kept hb3); have HX3 := hidC (HXd.out.kept hb3); have HB3 := hidC (HBd.out.trans (hb3.mono HJd.out.n0s)); have HF3 := hidC (HFd.out.trans (hb3.mono HFd.out.size)); have HO3 := hidC ho3; have HLm3 := hidC hlm; have HQ3 := hidC (And.intro HJ3.out.cells.1 (HXc.out W3 HX3.out).2); clear ho3 hb3 hlm))
  clear x0 x3 x4 p0 p1 HQ3 HC1 HVb
  obtain ⟨_, p1, _⟩ := HJ3.out.cells
  obtain ⟨_, x3, x4⟩ := HXc.out W3 HX3.out
  have HDs : Hid (Below W3.heap.size W3 W3.drew) := drew_below W3 1
  have HJe := hidC (HJ3.out.kept HDs.out)
  have HXe := hidC (HX3.out.kept HDs.out)
  have HBe : Hid (Below n0 wr W3.drew) := HB3.out.trans (HDs.out.mono HJ3.out.n0s)
  have HFe : Hid (Below wr.heap.size wr W3.drew) := HF3.out.trans (HDs.out.mono HF3.out.size)
  have HC2 := hidC (HVr.out W3.drew HJe.out)
  have HLl3 : Hid (lm = (ofV (k1, k2) sd.all).length) := by show _ = _; rw [HLm3.out, HS.out.al]; simp [plk]
  rw [← HLl3.out] at HC2
  go_upto_region 29 with fail
  go_region_held3 (fun w' => w'.cell? ⟨P, 1, none⟩ = some (ptr R) ∧ w'.cell? ⟨g, 3, none⟩ = some (.int .i64 k1) ∧ w'.cell? ⟨g, 4, none⟩ = some (.int .i64 k2)) (first | with_reducible exact HQ4.out | go_keep) (first
    | (go_at_call 39; with_reducible refine HC2.out.mono ?_; rintro e W4 ⟨ma, mc, rfl, hln, ho4, hb4⟩; have HJ4 := hidC (HJe.out.kept hb4); have HB4 := hidC (HBe.out.trans (hb4.mono HJe.out.n0s)); have HF4 := hidC (HFe.out.trans (hb4.mono HFe.out.size)); have HO4 := hidC ho4; have HBw := hidC (HDs.out.trans (hb4.mono HDs.out.size)); have HLn := hidC hln; have HQ4 := hidC (And.intro HJ4.out.cells.2.1 (HXc.out W4 (HXe.out.kept hb4)).2); clear ho4 hb4 hln))
  have HL4 : Hid (W4.ownsRow U.drew.heap.size 102 2 (.slice la lm lc) LL.length (cks LL)) := by
    have h1 := HO3.out
    rw [HS.out.al, ← HLL.out] at h1
    exact rowSame h1 (fun g hg => HBw.out.block g (World.ownsRow.lt h1 g hg).2)
  have HM4 : Hid (W4.ownsRow W3.drew.heap.size 102 2 (.slice ma lm mc) LL.length (cks LL)) := by
    have h1 := HO4.out
    have h2 := HLn.out
    rw [← HLL.out] at h1 h2
    rw [← h2]
    exact h1
  clear p1 x3 x4 HQ4 HC2 HVr HO3 HO4 HLn HLm3 HLl3 HBw HDs HJe HXe HDr HJd HXd HJ3 HX3
  obtain ⟨_, _, y2, y3, y4, y5, y6, y7⟩ := HJ4.out.cells
  obtain ⟨xA, hxA⟩ : ∃ xA, rv 4 = xA := ⟨_, rfl⟩
  obtain ⟨xB, hxB⟩ : ∃ xB, rv 5 = xB := ⟨_, rfl⟩
  rw [hxA] at y4
  rw [hxB] at y5
  have HA1 := hidC (HJ4.out.note 4 (by omega) (by omega) 35 81 rfl rfl la lm lc (by omega) xA hxA W4.heap.size rfl)
  have HA2 : Hid (∀ (w1 : World) (v1 : Value) rv', rv' 5 = xB → PJ n0 P B Mp Mc Mn R cap (cnt + 1) st sd nw av pv rv' (w1.setCell ⟨P, 4, none⟩ v1) → _) := fun w1 v1 rv' he hW => hW.note 5 (by omega) (by omega) 35 81 rfl rfl ma lm mc (by omega) xB he w1.heap.size (by simp)
  have HXAB := hidC (And.intro hxA hxB)
  clear hxA hxB
  go_wp2_with (first
    | (at_builtin; with_reducible refine wpL_appI rfl _ _ 35 rfl xB (.slice (some ⟨w1.heap.size, 0, none⟩) 1 1) rfl rfl HA3.out ?_; rintro v2 w2 ⟨⟨a2, m2, c2, rfl⟩, hc2, hf2, HN2⟩; have hd2 := hc2 5 (by omega) (by omega); rw [he1] at hd2)
    | (at_builtin; with_reducible refine wpL_appI rfl _ _ 35 rfl xA (.slice (some ⟨W4.heap.size, 0, none⟩) 1 1) rfl rfl HA1.out ?_; rintro v1 w1 ⟨⟨a1, m1, c1, rfl⟩, hc1, hf1, HN1⟩; have hd1 := hc1 4 (by omega) (by omega); have hd3 := hc1 5 (by omega) (by omega); rw [HXAB.out.1] at hd1; rw [HXAB.out.2] at hd3; obtain ⟨rv1, hr1, hJ1⟩ := HN1.out.1; have HJ1 := hidC hJ1; have he1 : rv1 5 = xB := (hr1 5 (by omega)).trans HXAB.out.2; have HA3 := hidC (HA2.out w1 _ rv1 he1 hJ1); clear hJ1 hc1 hr1))
  have HLm : Hid (KeysAt (w2.setCell ⟨P, 5, none⟩ (.slice a2 m2 c2)) la LL ∧ KeysAt (w2.setCell ⟨P, 5, none⟩ (.slice a2 m2 c2)) ma LL ∧ lm = LL.length) := by
    have hk : ∀ (k : Nat) (cs : Array Value) (T' : TypeId) (z : Nat × Nat), W4.heap[k]? = some (.cells cs T' z) → T' = 102 → (w2.setCell ⟨P, 5, none⟩ (.slice a2 m2 c2)).heap[k]? = W4.heap[k]? := fun k cs T' z hk hT => by
      have h1 := HN1.out.2.2 k cs T' z hk (by rw [hT]; decide) (by rw [hT]; decide)
      have h2 := HN2.out.2.2 k cs T' z (h1.trans hk) (by rw [hT]; decide) (by rw [hT]; decide)
      exact h2.trans h1
    have hl := rowKept HL4.out hk
    have hm := rowKept HM4.out hk
    obtain ⟨_, ql, el, hkl⟩ := row_at hl
    obtain ⟨_, qm, em, hkm⟩ := row_at hm
    simp only [Value.slice.injEq] at el em
    exact ⟨by rw [el.1]; exact hkl, by rw [em.1]; exact hkm, el.2.1⟩
  have HZ : Hid (∀ q, StK n0 P B Mp Mc Mn R cap cnt wr (.returned (.bool true)) ((w2.setCell ⟨P, 5, none⟩ (.slice a2 m2 c2)).drewN q)) := fun q => by
    obtain ⟨rv2, _, hJ2⟩ := HN2.out.1
    have hb := HB4.out.trans (HN1.out.2.1.trans HN2.out.2.1)
    refine ⟨⟨rfl, ⟨st, sd, HS.out, nw, av, pv, rv2, hJ2.kept (drew_below _ q)⟩, hb.trans ((drew_below _ q).mono hJ2.n0s)⟩, fun k cs z hk => ?_⟩
    have h4 := HF4.out.block k (blk_lt hk)
    have h1 := HN1.out.2.2 k cs _ z (h4.trans hk) (by decide) (by decide)
    have h2 := HN2.out.2.2 k cs _ z (h1.trans (h4.trans hk)) (by decide) (by decide)
    exact h2.trans (h1.trans h4)
  clear HA1 HA2 HA3 HN1 HN2 HJ1 hf1 hc2 hf2 hd1 hd2 hd3 he1 y2 y3 y4 y5 y6 y7
  generalize w2.setCell ⟨P, 5, none⟩ (.slice a2 m2 c2) = W6 at *
  refine (samePlaces_eq W6 la ma lm lc mc LL HLm.out.1 HLm.out.2.1 HLm.out.2.2 (by rw [HLm.out.2.2]; exact HLl.out)).mono ?_
  rintro e W7 ⟨rfl, q, hW7⟩
  subst hW7
  have HZq := hidC (HZ.out q)
  clear HZ
  go_wp2
  go_ret
  exact HZq.out
end Go.Proofs.YtibdogniiglcjaaGreat
/-
  all: ALL THAT A BOOK TELLS; BookMakes: THE LAW.
-/
namespace Go.Proofs.YtibdogniiglcjaaGreat
open Go.RowKit Go.Sort

def AllPost (n0 : Nat) (w : World) (e : Ending) (w' : World) : Prop := e = .returned (.bool true) ∧ Below n0 w w'
set_option maxHeartbeats 4000000 in
set_option maxRecDepth 100000 in
theorem all_any (n0 P B Mp Mc Mn R : Nat) (cap : Int) (st sd : Bs) (nw : List K) (av pv : Value) (rv : Nat → Value) (w : World) (hj : PJ n0 P B Mp Mc Mn R cap 0 st sd nw av pv rv w) (hs : Syn st sd) :
    Calls Tryz.prog 11 #[ptr P] w fun e w' => AllPost n0 w e w' := by
  have HPl := hidC (hj.pl hs)
  obtain ⟨LL, hLL⟩ : ∃ LL : List K, LL = sortK (sd.all.map Prod.fst) := ⟨_, rfl⟩
  have HKr := hidC (rkeys_any w n0 R cap sd.la sd.fl av pv sd.all sd.pins hj.rb HPl.out.2.1 HPl.out.2.2.2.2)
  rw [← hLL] at HKr
  have HLk : Hid ((∀ k ∈ LL, KIn k) ∧ LL.length ≤ 65536) := by
    have hr := sortK_rise (l := sd.all.map Prod.fst) (fun k hk => by
      obtain ⟨v, hv, rfl⟩ := List.mem_map.1 hk
      exact HPl.out.2.2.2.2 v hv)
    constructor
    · intro k hk
      rw [hLL] at hk
      obtain ⟨v, hv, rfl⟩ := List.mem_map.1 ((sortK_mem _ k).1 hk)
      exact hj.ba.nkin v.1 ((sortK_mem nw _).2 ((hj.ba.nwa _).2 ⟨v, by rw [hs.al]; exact hv, rfl⟩))
    · rw [hLL]
      have hnS : (sortK (sd.all.map Prod.fst)).Nodup := hr.2.imp (fun {a b} hab e => by subst e; rw [lt_irrefl] at hab; cases hab)
      have h1 := nodup_len _ (sd.all.map Prod.fst) hnS (fun x hx => (sortK_mem _ x).1 hx)
      have := HPl.out.2.1
      simp at h1
      omega
  have HJ := hidC hj
  have HS := hidC hs
  obtain ⟨p0, p1, _⟩ := hj.cells
  clear hj hs hLL
  go_enter Tryz.func11, Tryz.ntmps11
  go_wp2_with fail
  clear p0 p1
  refine HKr.out.mono ?_
  rintro e W1 ⟨la, lm, lc, rfl, ho, hb1⟩
  have hlm : lm = LL.length := by
    obtain ⟨_, _, _, e4, h4⟩ := rowOpenD ho
    simp only [Value.slice.injEq] at e4
    rw [e4.2.1]
    exact h4
  have hlm2 : lm ≤ 65536 := by rw [hlm]; exact HLk.out.2
  have HLm := hidC hlm
  have H1 : Hid ((∃ st sd, Syn st sd ∧ ∃ nw av pv rv, PJ n0 P B Mp Mc Mn R cap (2 * 0) st sd nw av pv rv W1) ∧ OwnK W1 w.heap.size (.slice la lm lc) LL ∧ Below n0 w W1) := ⟨⟨st, sd, HS.out, nw, av, pv, rv, HJ.out.kept hb1⟩, ho, hb1.mono HJ.out.n0s⟩
  clear ho hb1 HKr hlm
  go_wp2_with fail
  go_loopw [4, 5] (fun y _ wr => ∃ i : Nat, i ≤ lm ∧ y = .int .i64 (i : Int) ∧ Hid ((∃ st sd, Syn st sd ∧ ∃ nw av pv rv, PJ n0 P B Mp Mc Mn R cap (2 * i) st sd nw av pv rv wr) ∧ OwnK wr w.heap.size (.slice la lm lc) LL ∧ Below n0 w wr)) (fun y _ _ => lm - (intOf y).toNat)
  case atStart => exact ⟨0, Nat.zero_le _, rfl, H1.out⟩
  case round =>
    clear H1
    obtain ⟨i, hi, rfl, HI⟩ := hrel
    obtain ⟨⟨st1, sd1, hsy, nw1, av1, pv1, rv1, hj1⟩, ho1, hbw⟩ := HI.out
    clear HI
    by_cases hlt : i < lm
    · have hil : i < LL.length := by have := HLm.out; omega
      have hkin := HLk.out.1 _ (kd_mem hil)
      obtain ⟨la', lc', e4, hka, _, _⟩ := ho1.slice
      simp only [Value.slice.injEq] at e4
      have e5 := e4.1
      subst e5
      obtain ⟨b, off, hao, e0, e1⟩ := KeysAt.get2 hka i hil
      subst hao
      have HO1 := hidC ho1
      have HBr := hidC hbw
      generalize kd LL i = kk at *
      obtain ⟨k1, k2⟩ := kk
      simp only at e0 e1
      have HSt := hidC (step7k_any n0 P B Mp Mc Mn R cap (2 * i) st1 sd1 nw1 av1 pv1 rv1 wr hj1 hsy (by omega) none 0 0 0 k1 k2 hkin)
      clear hj1 hsy ho1 hbw hka e4 hkin
      go_wp2_with fail
      clear e0 e1
      refine HSt.out.mono ?_
      rintro e W2 ⟨⟨rfl, hj2, hb2⟩, hkk⟩
      have HZ : Hid ((∃ st sd, Syn st sd ∧ ∃ nw av pv rv, PJ n0 P B Mp Mc Mn R cap (2 * (i + 1)) st sd nw av pv rv W2) ∧ OwnK W2 w.heap.size (.slice (some ⟨b, off, none⟩) lm lc) LL ∧ Below n0 w W2) := by
        refine ⟨by rw [show 2 * (i + 1) = 2 * i + 2 by omega]; exact hj2, HO1.out.same (fun g hg => ?_), HBr.out.trans hb2⟩
        obtain ⟨cur, hc⟩ := rowBlock HO1.out hg
        exact hkk g cur _ hc
      clear hj2 hb2 hkk HSt HBr HO1
      go_wp2
      exact ⟨⟨i + 1, by omega, by go_num, HZ.out⟩, by simp [intOf]; omega⟩
    · have hie : i = lm := by omega
      subst hie
      have HBr := hidC hbw
      have H6 := hidC (step6_any n0 P B Mp Mc Mn R cap (2 * i) st1 sd1 nw1 av1 pv1 rv1 wr hj1 hsy (by omega) none 0 0 0 0 0 (by unfold KIn In64; simp))
      clear hj1 hsy ho1 hbw
      go_wp2_with fail
      refine H6.out.mono ?_
      rintro e W6 ⟨rfl, ⟨st6, sd6, hs6, nw6, av6, pv6, rv6, hj6⟩, hb6⟩
      have HB6 : Hid (Below n0 w W6) := HBr.out.trans hb6
      have H5 := hidC (step5_any n0 P B Mp Mc Mn R cap _ st6 sd6 nw6 av6 pv6 rv6 W6 hj6 hs6 (by omega) none 0 0 0 0 0 (by unfold KIn In64; simp))
      clear hj6 hs6 hb6 H6
      go_wp2_with fail
      refine H5.out.mono ?_
      rintro e W5 ⟨rfl, ⟨st5, sd5, hs5, nw5, av5, pv5, rv5, hj5⟩, hb5⟩
      have HB5 : Hid (Below n0 w W5) := HB6.out.trans hb5
      have HNm := hidC (numbers_any W5 hj5 hs5)
      have hz5 := hj5.n0s
      clear hj5 hs5 hb5 H5
      go_wp2_with fail
      refine HNm.out.mono ?_
      rintro e W7 ⟨rfl, q, hW7⟩
      subst hW7
      have HX : Hid (AllPost n0 w (.returned (.bool true)) (W5.drewN q)) := ⟨rfl, HB5.out.trans ((drew_below W5 q).mono hz5)⟩
      go_wp2
      go_ret
      exact HX.out
set_option maxHeartbeats 4000000 in
set_option maxRecDepth 100000 in
theorem lawBookMakes (w : World) (cap : Int) (rs : Bool) (s : Sn) (hs : SnAt w.heap.size w s) (hsi : SnIn s) :
    Calls Tryz.prog 3 #[mdv cap rs s] w fun e w' => PlPost w e w' := by
  obtain ⟨pn, hpn⟩ : ∃ pn, pn = s.pins.length := ⟨_, rfl⟩
  obtain ⟨cn, hcn⟩ : ∃ cn, cn = s.chs.length := ⟨_, rfl⟩
  obtain ⟨pa, hpa⟩ : ∃ pa, pa = s.pa := ⟨_, rfl⟩
  obtain ⟨ca, hca⟩ : ∃ ca, ca = s.ca := ⟨_, rfl⟩
  obtain ⟨pc, hpc⟩ : ∃ pc, pc = s.pc := ⟨_, rfl⟩
  obtain ⟨cc, hcc⟩ : ∃ cc, cc = s.cc := ⟨_, rfl⟩
  obtain ⟨la, hla⟩ : ∃ la, la = s.la := ⟨_, rfl⟩
  have hmv : mdv cap rs s = .agg #[.int .i64 cap, .bool rs, .int .i64 la, .slice pa pn pc, .slice ca cn cc] := by rw [hla, hpa, hpn, hpc, hca, hcn, hcc]; rfl
  obtain ⟨W1, hW1⟩ : ∃ W1, W1 = w.alloc (.cells #[.int .i64 cap, .bool rs, .int .i64 la, .slice pa pn pc, .slice ca cn cc] 27) := ⟨_, rfl⟩
  obtain ⟨Kb, hKb⟩ : ∃ Kb, Kb = w.heap.size := ⟨_, rfl⟩
  have HB : Hid (Below w.heap.size w W1 ∧ W1.heap[Kb]? = some (.cells #[.int .i64 cap, .bool rs, .int .i64 la, .slice pa pn pc, .slice ca cn cc] 27 (0, 0))) := by
    rw [hW1, hKb]
    exact ⟨(Below.refl _ _).alloc (Nat.le_refl _) _, heap_alloc_new _ _ rfl⟩
  have HK : Hid (∀ W, Below W1.heap.size W1 W → W.cell? ⟨Kb, 0, none⟩ = some (.int .i64 cap) ∧ W.cell? ⟨Kb, 1, none⟩ = some (.bool rs) ∧ W.cell? ⟨Kb, 2, none⟩ = some (.int .i64 la) ∧ W.cell? ⟨Kb, 3, none⟩ = some (.slice pa pn pc) ∧ W.cell? ⟨Kb, 4, none⟩ = some (.slice ca cn cc)) := fun W hW => by
    have h4 : W.heap[Kb]? = _ := (hW.block _ (blk_lt HB.out.2)).trans HB.out.2
    refine ⟨?_, ?_, ?_, ?_, ?_⟩ <;> simp [World.cell?, h4]
  have HS : Hid (∀ W, Below w.heap.size w W → SnAt w.heap.size W s) := fun W hW => hs.below hW
  have HO : Hid (∀ W, OpsAt (fun k => w.heap.size ≤ k) W none []) := fun W i hi => by simp at hi
  have HBw : Hid (∀ W, Below W1.heap.size W1 W → Below w.heap.size w W) := fun W hW => HB.out.1.trans (hW.mono HB.out.1.size)
  have HP3 : Hid (Calls Tryz.prog 9 #[.agg #[.int .i64 cap, .bool rs, .int .i64 la, .slice pa pn pc, .slice ca cn cc], .slice none 0 0] W1 fun e w' => ∃ r, e = .returned (.int .i64 r) ∧ PartsO pn (s.chs.map (fun c => c.l.length)) [] r ∧ Below W1.heap.size W1 w') := by
    have hch : ChsAt W1 ca (s.chs.map (fun c => c.l.length)) := by rw [hca]; exact (HS.out W1 HB.out.1).chs hsi.nv
    exact partsO_any _ W1 cap rs la pa pn pc ca cn cc _ none 0 0 [] (by rw [List.length_map]; exact hcn) rfl hch (HO.out W1) (by rw [hpn]; exact hsi.np) (by rw [hcn]; exact hsi.nc) (by omega)
  have HE := hidC (And.intro hpn hcn)
  have HIn := hidC hsi
  have HMv := hidC hmv
  rw [hmv]
  clear hpn hcn hpa hca hpc hcc hla hs hmv hsi
  go_enter Tryz.func3, Tryz.ntmps3
  go_upto_region 1 with fail
  rw [← hW1, ← hKb]
  clear hW1 hKb
  obtain ⟨k0, k1, k2, k3, k4⟩ := HK.out W1 (Below.refl _ _)
  go_wp2_with fail
  clear k0 k1 k2 k3 k4
  refine HP3.out.mono ?_
  rintro e X3 ⟨r, rfl, hr, hb3⟩
  have HQ3 := hidC hb3
  have HPr := hidC hr
  clear hr hb3 HP3
  by_cases hr0 : r < 0
  · have hr1 : decide (r < 0) = true := decide_eq_true hr0
    have HX : Hid (PlPost w (.returned (.bool true)) X3) := ⟨rfl, HBw.out _ HQ3.out⟩
    go_wp2
    go_ret
    exact HX.out
  have hr1 : decide (r < 0) = false := decide_eq_false hr0
  have HPo := hidC (HPr.out (by omega))
  have HSo : Hid (SnOK s) := HIn.out.ok (os := []) (r := r) (by rw [← HE.out.1]; exact HPr.out) (by omega)
  clear HPr
  obtain ⟨k0, k1, k2, k3, k4⟩ := HK.out X3 HQ3.out
  have HMd : Hid (Calls Tryz.prog 10 #[.agg #[.int .i64 cap, .bool rs, .int .i64 la, .slice pa pn pc, .slice ca cn cc]] X3 fun e w' => MadePost X3 cap rs s e w') := by
    have h1 := made_any w.heap.size X3 cap rs s (HS.out X3 (HBw.out _ HQ3.out)) (HBw.out _ HQ3.out).size HSo.out
    rw [HMv.out] at h1
    exact h1
  go_wp2_with fail
  clear k0 k1 k2 k3 k4
  refine HMd.out.mono ?_
  rintro e X5 ⟨P, bv, rvv, rfl, hP, hPl, hb5, ⟨_, rfl, rfl⟩ | ⟨hE0, B, Mp, Mc, Mn, nw0, R, av, pvv, rfl, rfl, hba, hsb, hrb⟩⟩
  · have p0 : X5.cell? ⟨P, 0, none⟩ = some (.pointer none) := by simp [World.cell?, hP]
    have HX : Hid (PlPost w (.returned (.bool true)) X5) := by
      have h1 := HBw.out _ HQ3.out
      exact ⟨rfl, h1.trans (hb5.mono h1.size)⟩
    clear hP hPl hb5 HMd
    go_wp2
    go_ret
    exact HX.out
  have p0 : X5.cell? ⟨P, 0, none⟩ = some (ptr B) := by simp [World.cell?, hP]
  have HAl : Hid (Calls Tryz.prog 11 #[ptr P] X5 fun e w' => e = .returned (.bool true) ∧ Below w.heap.size X5 w') := by
    obtain ⟨st, sd, hsy, nw, av', pv', rv', hj⟩ := pair_start (HBw.out _ HQ3.out) hE0 hP hPl hba hsb hrb
    exact all_any w.heap.size P B Mp Mc Mn R cap st sd nw av' pv' rv' X5 hj hsy
  have HB5 : Hid (Below w.heap.size w X5) := by
    have h1 := HBw.out _ HQ3.out
    exact h1.trans (hb5.mono h1.size)
  clear hP hPl hb5 hba hsb hrb HMd HQ3 HSo hE0
  go_wp2_with fail
  clear p0
  refine HAl.out.mono ?_
  rintro e X6 ⟨rfl, hb6⟩
  have HX : Hid (PlPost w (.returned (.bool true)) X6) := ⟨rfl, HB5.out.trans hb6⟩
  clear hb6 HAl
  go_wp2
  go_ret
  exact HX.out
end Go.Proofs.YtibdogniiglcjaaGreat
