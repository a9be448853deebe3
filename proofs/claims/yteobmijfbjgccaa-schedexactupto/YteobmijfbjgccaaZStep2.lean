/-
  A pair's step, by kinds.
-/
import Derived.Test.YteobmijfbjgccaaZStepL
namespace Go.Proofs.Yteobmijfbjgccaa
open Go.RowKit Go.Sort

set_option maxRecDepth 100000 in
set_option maxHeartbeats 4000000 in
theorem step2Z : StepOK 2 := by
  intro N w pb n B nt ts t x a c m ps hPS hn htb hNw hm hmb ha ha0 hab
  obtain ⟨cb, X, lb, ao, tc, lo, lc, rb, ra, rk, ba, bc, db, no, nc, lio, lic, wo, wc, vs1, vs2, l, k, hpa⟩ := hPS
  obtain ⟨W, hW⟩ : ∃ W, W = w.alloc (.cells #[.int .i64 2, .int .i64 x, .slice a m c] 33) := ⟨_, rfl⟩
  have hbW : RowKit.Below w.heap.size w W := by rw [hW]; exact (Below.refl _ _).alloc (Nat.le_refl _) _
  have hob : W.heap[w.heap.size]? = some (.cells #[.int .i64 2, .int .i64 x, .slice a m c] 33 (0, 0)) := by rw [hW]; exact heap_alloc_new _ _ rfl
  have HP0 := hidW (hpa.kept hbW)
  have HB0 : Hid (RowKit.Below N w W) := hbW.mono hNw
  have HPsW := hidW (ha.below hbW)
  have HM := hidW hm
  have HAb := hidW hab
  have HA0 := hidW ha0
  have HWi := hidW (fun (q : Nat) => within_any (W.drewN q) x n (by omega))
  obtain ⟨ob, hobe⟩ : ∃ ob, ob = w.heap.size := ⟨_, rfl⟩
  rw [← hobe] at hob
  have o0 : W.cell? ⟨ob, 0, none⟩ = some (.int .i64 2) := by simp [World.cell?, hob]
  have o1 : W.cell? ⟨ob, 1, none⟩ = some (.int .i64 x) := by simp [World.cell?, hob]
  have o2 : W.cell? ⟨ob, 2, none⟩ = some (.slice a m c) := by simp [World.cell?, hob]
  have p0 := HP0.out.pq.cell.1
  have HOb : Hid (W.heap[ob]? = some (.cells #[.int .i64 2, .int .i64 x, .slice a m c] 33 (0, 0))) := hob
  clear hpa hbW hob ha hm hab ha0
  go_enter Try.func13, Try.ntmps13
  go_upto_region 1 with fail
  rw [← hobe, show w.alloc (.cells #[.int .i64 2, .int .i64 x, .slice a m c] 33) = W from hW.symm]
  clear hobe hW
  go_quiet (first | (go_at_call 24; exact Calls.quiet_of_same (HWi.out _)))
  have hbq : RowKit.Below W.heap.size W (W.drewN nq) := below_drewN (Below.refl _ _) nq
  have HP1 := hidW (HP0.out.kept hbq)
  have HB1 : Hid (RowKit.Below N w (W.drewN nq)) := below_drewN HB0.out nq
  have HO1 : Hid ((W.drewN nq).heap[ob]? = some (.cells #[.int .i64 2, .int .i64 x, .slice a m c] 33 (0, 0))) := HOb.out
  have HPs1 := hidW (HPsW.out.below hbq)
  clear HP0 HB0 HOb HPsW HWi o0 o1 o2 p0 hbq
  generalize W.drewN nq = W1 at *
  have o0 : W1.cell? ⟨ob, 0, none⟩ = some (.int .i64 2) := by simp [World.cell?, HO1.out]
  have o1 : W1.cell? ⟨ob, 1, none⟩ = some (.int .i64 x) := by simp [World.cell?, HO1.out]
  have o2 : W1.cell? ⟨ob, 2, none⟩ = some (.slice a m c) := by simp [World.cell?, HO1.out]
  obtain ⟨p0, p1, p2, p3, p4, p5, pf⟩ := HP1.out.pq.cell
  have HAp1 : Hid (∀ ty, ∃ v' w', (Builtin.append_ #[23, 23] ty #[.slice none 0 0, .slice a m c]).run Try.prog W1 = .ok v' w' ∧ ∃ oo oc, v' = .slice oo m oc ∧ Hid (OwZ W1.heap.size 3 w' oo m oc (i64s ps) ∧ RowKit.Below W1.heap.size W1 w')) := fun ty => by
    obtain ⟨v', w', hr, h2, h3, _, _⟩ := app_at (TS := 23) (TE := 3) Try.underlying23 infoZI rfl (by omega) (w := W1) ty W1.heap.size (.slice none 0 0) 0 [] (World.ownsRow_nil _ _ _ _) a m c (i64s ps) (by simp [i64s, HM.out]) HPs1.out HA0.out (i64s_one ps) (by unfold maxLen; omega) (by omega) (Nat.le_refl _)
    rw [Nat.zero_add, List.nil_append] at h2
    obtain ⟨oo, oc, e⟩ : ∃ oo oc, v' = .slice oo m oc := by
      obtain ⟨_, ⟨e, e2⟩ | ⟨g, cap, cur, e, _⟩⟩ := h2
      · exact ⟨none, 0, by rw [e, e2]⟩
      · exact ⟨_, _, e⟩
    subst e
    exact ⟨_, w', hr, oo, oc, rfl, h2, ⟨h3.os, h3.tape, h3.output, h3.size, fun k hk => h3.block k hk (by simp [Value.ownBlock])⟩⟩
  go_upto_region 14 with (at_builtin; refine wpL_appZ rfl _ _ 23 rfl (.slice none 0 0) (.slice a m c) rfl rfl HAp1.out ?_; rintro v2 w2 ⟨oo, oc, rfl, HQ2⟩)
  have HO2 := hidW HQ2.out.1
  have HBq := hidW HQ2.out.2
  have HAp2 := hidW (appZ (TS := 23) (TE := 3) Try.underlying23 infoZI rfl HO2.out HBq.out.size (.int .i64 (-9)) rfl (by unfold maxLen; omega) (by omega))
  clear HQ2 HAp1 o0 o1 o2 p0 p1 p2 p3 p4 p5 pf
  obtain ⟨m1, hm1⟩ : ∃ m1, m1 = m + 1 := ⟨_, rfl⟩
  go_upto_region 15 with (at_builtin; refine wpL_appZ rfl _ _ 23 rfl (.slice oo m oc) (.slice (some ⟨w2.heap.size, 0, none⟩) 1 1) rfl rfl HAp2.out ?_; rintro v3 w3 ⟨oo3, oc3, rfl, ho3, hf3, _⟩)
  have hb3 : RowKit.Below W1.heap.size W1 w3 := HBq.out.trans (hf3.below HBq.out.size (fun j hj => by obtain ⟨g, hg, rfl⟩ := hj; exact (HO2.out.lt g hg).1))
  have HP3 := hidW (HP1.out.kept hb3)
  have HB3 : Hid (RowKit.Below N w w3) := HB1.out.trans (hb3.mono (Nat.le_trans hNw HB1.out.size))
  have HOb3 : Hid (w3.heap[ob]? = some (.cells #[.int .i64 2, .int .i64 x, .slice a m c] 33 (0, 0))) := (hb3.block ob (blk_ltZ HO1.out)).trans HO1.out
  have HPs3 := hidW (HPs1.out.below hb3)
  obtain ⟨g, hg⟩ : ∃ g, oo3 = some ⟨g, 0, none⟩ := by
    obtain ⟨_, ⟨e, e2⟩ | ⟨g, cap, cur, e, _⟩⟩ := ho3
    · omega
    · cases e; exact ⟨g, rfl⟩
  subst hg
  have hoc : m + 1 ≤ oc3 := ho3.cap
  have HO3 := hidW ho3
  rw [← hm1]
  have HM1 := hidW hm1
  clear hm1 HO2 HBq HAp2 ho3 hf3 hb3 HP1 HB1 HO1 HPs1
  obtain ⟨_, p1, p2, p3, p4, p5, pf⟩ := HP3.out.pq.cell
  have o2 : w3.cell? ⟨ob, 2, none⟩ = some (.slice a m c) := by simp [World.cell?, HOb3.out]
  have hd1 : RowKit.Below w3.heap.size w3 w3.drew := ⟨rfl, rfl, rfl, Nat.le_refl _, fun _ _ => rfl⟩
  have HPd := hidW (HP3.out.kept hd1)
  have HWo : Hid (∀ w' : World, TyF (fun T => T = 3) w3 w' → WAt w' (some ⟨g, 0, none⟩) (i64s ps) ∧ w'.cell? ⟨g, m, none⟩ = some (.int .i64 (-9))) := fun w' hT => by
    obtain ⟨C, hC⟩ := HO3.out.ty _ rfl
    have h1 := HO3.out.at_.sameZ (w' := w') (fun g' hg' => by cases hg'; exact hT _ _ _ hC rfl)
    refine ⟨fun j u hu => h1 j u (by rw [List.getElem?_append_left (List.getElem?_eq_some_iff.1 hu).1]; exact hu), ?_⟩
    obtain ⟨b', off', e', h2⟩ := h1 m (.int .i64 (-9)) (by rw [List.getElem?_append_right (by simp [i64s, HM.out]), show m - (i64s ps).length = 0 by simp [i64s, HM.out]]; rfl)
    cases e'
    rw [Nat.zero_add] at h2
    exact h2
  have HC : Hid (Calls Try.prog 31 #[ptZ lb, .slice (some ⟨g, 0, none⟩) m oc3] w3.drew fun e w' => ∃ (r : Nat), e = .returned (.int .i64 (r : Int)) ∧ (w'.cell? ⟨pb, 1, none⟩ = some (ptZ lb) ∧ w'.cell? ⟨ob, 2, none⟩ = some (.slice a m c)) ∧ Hid (r = plK B nt ts ps l ∧ PA N w' pb n cb B X lb ao nt tc ts lo lc rb ra rk ba bc db no nc lio lic wo wc t vs1 vs2 (plL B nt ts ps l) (k + r) l k ∧ RowKit.Below N w w' ∧ TyF (fun T => T = 3) w3 w' ∧ w'.heap[ob]? = some (.cells #[.int .i64 2, .int .i64 x, .slice a m c] 33 (0, 0)))) := by
    have hT0 : TyF (fun T => T = 3) w3 w3.drew := fun _ _ _ _ _ => rfl
    refine Calls.mono (play_any HPd.out.pq.sl (some ⟨g, 0, none⟩) m oc3 ps HM.out (HWo.out _ hT0).1 (by simp) (by omega)) ?_
    rintro e w4 ⟨rfl, h1, h2⟩
    obtain ⟨hp4, hT4⟩ := HPd.out.goC h1 h2
    have ho4 : w4.heap[ob]? = some (.cells #[.int .i64 2, .int .i64 x, .slice a m c] 33 (0, 0)) := (hT4 ob _ _ (show w3.drew.heap[ob]? = some (.cells #[.int .i64 2, .int .i64 x, .slice a m c] 33 (0, 0)) from HOb3.out) (by decide)).trans HOb3.out
    have hb3 : RowKit.Below N w w3.drew := ⟨HB3.out.os, HB3.out.tape, HB3.out.output, HB3.out.size, HB3.out.block⟩
    exact ⟨_, rfl, ⟨hp4.pq.cell.2.1, by simp [World.cell?, ho4]⟩, rfl, hp4, hb3.trans (h2.below (Nat.le_trans hNw hb3.size) HPd.out.ge.1), fun k C T hk hT => hT4 k C T hk (by rw [hT]; decide), ho4⟩
  have hmc : (m : Int) ≤ (oc3 : Int) := by omega
  have hmc2 : m ≤ oc3 := by omega
  have hmm : m ≤ m1 := by have := HM1.out; omega
  clear HP3 HPd HOb3 hd1 p2 p3 p4 p5 pf
  go_cut [9] (fun y wx => ∃ r : Nat, y = .int .i64 (r : Int) ∧ Hid (r = plK B nt ts ps l ∧ PA N wx pb n cb B X lb ao nt tc ts lo lc rb ra rk ba bc db no nc lio lic wo wc t vs1 vs2 (plL B nt ts ps l) (k + r) l k ∧ RowKit.Below N w wx ∧ TyF (fun T => T = 3) w3 wx ∧ wx.heap[ob]? = some (.cells #[.int .i64 2, .int .i64 x, .slice a m c] 33 (0, 0))))
  case first =>
    go_region_held3 (fun w' => w'.cell? ⟨pb, 1, none⟩ = some (ptZ lb) ∧ w'.cell? ⟨ob, 2, none⟩ = some (.slice a m c)) (first | with_reducible exact HSx.out | go_keep) (first
      | (go_at_call 31; (with_reducible refine HC.out.mono ?_); rintro e w4 ⟨r, rfl, hsx, HD⟩; have HSx := hidW hsx; clear hsx))
    all_goals
      go_wp2_with fail
      go_meet
      case rel => exact ⟨r, rfl, HD⟩
  case rest =>
    obtain ⟨r, rfl, HX⟩ := hcut
    clear HC o2 p1
    generalize wc = W4 at *
    obtain ⟨hr, hpa4, hb4, hT4, hob4⟩ := HX.out
    have hd4 : RowKit.Below W4.heap.size W4 W4.drew := ⟨rfl, rfl, rfl, Nat.le_refl _, fun _ _ => rfl⟩
    have hpd := hpa4.kept hd4
    have hwa : WAt W4.drew a (i64s ps) := HPs3.out.sameN (fun hne g' hg' => by
      have h1 := HAb.out g' hg' hne
      exact (hb4.block _ h1).trans (HB3.out.block _ h1).symm)
    have HD : Hid (Calls Try.prog 32 #[ptZ db, .slice a m c] W4.drew fun e w' => e = .returned (.int .i64 (r : Int)) ∧ (w'.cell? ⟨pb, 3, none⟩ = some (ptZ db) ∧ w'.cell? ⟨ob, 2, none⟩ = some (.slice a m c) ∧ w'.cell? ⟨g, m, none⟩ = some (.int .i64 (-9))) ∧ Hid (Calls Try.prog 29 #[.slice (some ⟨g, 0, none⟩) m oc3, .slice a m c] w' fun e w'' => e = .returned (.bool true) ∧ (w''.cell? ⟨pb, 3, none⟩ = some (ptZ db) ∧ w''.cell? ⟨ob, 2, none⟩ = some (.slice a m c) ∧ w''.cell? ⟨g, m, none⟩ = some (.int .i64 (-9))) ∧ Hid (StP N w pb n B nt ts t (.returned (.bool true)) w''))) := by
      have hge := hpd.ge
      refine Calls.mono (rplay_any hpd.dl a m c ps HM.out hwa (fun hne g' hg' hS => by have := hge.2 _ hS; have := HAb.out g' hg' hne; omega) (by omega)) ?_
      rintro e w5 ⟨rfl, h3, h4⟩
      obtain ⟨hp5, hT5⟩ := hpd.goD h3 h4
      have ho5 : w5.heap[ob]? = some (.cells #[.int .i64 2, .int .i64 x, .slice a m c] 33 (0, 0)) := (hT5 ob _ _ (show W4.drew.heap[ob]? = some (.cells #[.int .i64 2, .int .i64 x, .slice a m c] 33 (0, 0)) from hob4) (by decide)).trans hob4
      have hT35 : TyF (fun T => T = 3) w3 w5 := fun k C T hk hT => by
        have e1 := hT4 k C T hk hT
        have e2 := hT5 k C T (show W4.drew.heap[k]? = some (.cells C T (0, 0)) from e1.trans hk) (by rw [hT]; decide)
        exact e2.trans e1
      obtain ⟨q1, q2⟩ := HWo.out w5 hT35
      have hb4d : RowKit.Below N w W4.drew := ⟨hb4.os, hb4.tape, hb4.output, hb4.size, hb4.block⟩
      have hb5 : RowKit.Below N w w5 := hb4d.trans (h4.below (Nat.le_trans hNw hb4d.size) hge.2)
      have hwa5 : WAt w5 a (i64s ps) := HPs3.out.sameN (fun hne g' hg' => by
        have h1 := HAb.out g' hg' hne
        exact (hb5.block _ h1).trans (HB3.out.block _ h1).symm)
      refine ⟨by rw [← hr], ⟨hp5.pq.cell.2.2.2.1, by simp [World.cell?, ho5], q2⟩, ?_⟩
      refine Calls.mono (sameIntsZ2 w5 (some ⟨g, 0, none⟩) a m oc3 c ps q1 hwa5 HM.out (by omega)) ?_
      rintro e w6 ⟨rfl, q, rfl⟩
      have hq := below_drewN (Below.refl w5.heap.size w5) q
      rw [← hr] at hp5
      exact ⟨rfl, ⟨(hp5.kept hq).pq.cell.2.2.2.1, (show w5.cell? ⟨ob, 2, none⟩ = _ by simp [World.cell?, ho5]), q2⟩, rfl, t, by omega, ⟨cb, X, lb, ao, tc, lo, lc, rb, ra, rk, ba, bc, db, no, nc, lio, lic, wo, _, vs1, vs2, _, _, hp5.kept hq⟩, below_drewN hb5 q⟩
    have p3 := hpa4.pq.cell.2.2.2.1
    have o2 : W4.cell? ⟨ob, 2, none⟩ = some (.slice a m c) := by simp [World.cell?, hob4]
    have q9 := (HWo.out W4 hT4).2
    have hmI : (m : Int) < (m1 : Int) := by have := HM1.out; omega
    clear hr hpa4 hb4 hT4 hob4 hd4 hpd hwa HX HWo HPs3 HB3 HO3
    go_upto_region 16 with fail
    go_region_held3 (fun w' => w'.cell? ⟨pb, 3, none⟩ = some (ptZ db) ∧ w'.cell? ⟨ob, 2, none⟩ = some (.slice a m c) ∧ w'.cell? ⟨g, m, none⟩ = some (.int .i64 (-9))) (first | with_reducible exact HSy.out | with_reducible exact HSx.out | go_keep) (first
      | (go_at_call 32; (with_reducible refine HD.out.mono ?_); rintro e w5 ⟨rfl, hsx, HF⟩; have HSx := hidW hsx; clear hsx)
      | (go_at_call 29; (with_reducible refine HF.out.mono ?_); rintro e w6 ⟨rfl, hsy, HE⟩; have HSy := hidW hsy; clear hsy))
    all_goals
      go_wp2_with fail
      go_ret
      exact HE.out
end Go.Proofs.Yteobmijfbjgccaa
