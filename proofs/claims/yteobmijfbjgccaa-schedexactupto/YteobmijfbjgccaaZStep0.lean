/-
  A pair's step, by kinds.
-/
import Derived.Test.YteobmijfbjgccaaZStepL
namespace Go.Proofs.Yteobmijfbjgccaa
open Go.RowKit Go.Sort

set_option maxRecDepth 100000 in
set_option maxHeartbeats 4000000 in
theorem step0Z : StepOK 0 := by
  intro N w pb n B nt ts t x a c m ps hPS hn htb hNw hm hmb ha ha0 hab
  obtain ⟨cb, X, lb, ao, tc, lo, lc, rb, ra, rk, ba, bc, db, no, nc, lio, lic, wo, wc, vs1, vs2, l, k, hpa⟩ := hPS
  obtain ⟨W, hW⟩ : ∃ W, W = w.alloc (.cells #[.int .i64 0, .int .i64 x, .slice a m c] 33) := ⟨_, rfl⟩
  have hbW : RowKit.Below w.heap.size w W := by rw [hW]; exact (Below.refl _ _).alloc (Nat.le_refl _) _
  have hob : W.heap[w.heap.size]? = some (.cells #[.int .i64 0, .int .i64 x, .slice a m c] 33 (0, 0)) := by rw [hW]; exact heap_alloc_new _ _ rfl
  have HP0 := hidW (hpa.kept hbW)
  have HB0 : Hid (RowKit.Below N w W) := hbW.mono hNw
  have HPsW := hidW (ha.below hbW)
  have HM := hidW hm
  have HAb := hidW hab
  have HA0 := hidW ha0
  have HWi := hidW (fun (q : Nat) => within_any (W.drewN q) x n (by omega))
  obtain ⟨ob, hobe⟩ : ∃ ob, ob = w.heap.size := ⟨_, rfl⟩
  rw [← hobe] at hob
  have o0 : W.cell? ⟨ob, 0, none⟩ = some (.int .i64 0) := by simp [World.cell?, hob]
  have o1 : W.cell? ⟨ob, 1, none⟩ = some (.int .i64 x) := by simp [World.cell?, hob]
  have o2 : W.cell? ⟨ob, 2, none⟩ = some (.slice a m c) := by simp [World.cell?, hob]
  have p0 := HP0.out.pq.cell.1
  have HOb : Hid (W.heap[ob]? = some (.cells #[.int .i64 0, .int .i64 x, .slice a m c] 33 (0, 0))) := hob
  clear hpa hbW hob ha hm hab ha0
  go_enter Try.func13, Try.ntmps13
  go_upto_region 1 with fail
  rw [← hobe, show w.alloc (.cells #[.int .i64 0, .int .i64 x, .slice a m c] 33) = W from hW.symm]
  clear hobe hW
  go_quiet (first | (go_at_call 24; exact Calls.quiet_of_same (HWi.out _)))
  have hbq : RowKit.Below W.heap.size W (W.drewN nq) := below_drewN (Below.refl _ _) nq
  have HP1 := hidW (HP0.out.kept hbq)
  have HB1 : Hid (RowKit.Below N w (W.drewN nq)) := below_drewN HB0.out nq
  have HO1 : Hid ((W.drewN nq).heap[ob]? = some (.cells #[.int .i64 0, .int .i64 x, .slice a m c] 33 (0, 0))) := HOb.out
  have HPs1 := hidW (HPsW.out.below hbq)
  clear HP0 HB0 HOb HPsW HWi o0 o1 o2 p0 hbq
  generalize W.drewN nq = W1 at *
  have o0 : W1.cell? ⟨ob, 0, none⟩ = some (.int .i64 0) := by simp [World.cell?, HO1.out]
  have o1 : W1.cell? ⟨ob, 1, none⟩ = some (.int .i64 x) := by simp [World.cell?, HO1.out]
  have o2 : W1.cell? ⟨ob, 2, none⟩ = some (.slice a m c) := by simp [World.cell?, HO1.out]
  obtain ⟨p0, p1, p2, p3, p4, p5, pf⟩ := HP1.out.pq.cell
  have HC1 := hidW (lready_any HP1.out.pq.sl)
  have hPl : (plcZ l B nt ts).length ≤ 10000000 := Nat.le_trans (plcZ_len _ _ _ _) HP1.out.pq.sl.nb
  have HC2 := fun (w2 : World) (hb : RowKit.Below W1.heap.size W1 w2) => hidW (rlready_any (HP1.out.kept hb).dl)
  obtain ⟨P, hP⟩ : ∃ P, P = plcZ l B nt ts := ⟨_, rfl⟩
  rw [← hP] at HC1 hPl
  simp only [← hP] at HC2
  clear hP
  go_upto_region 4 with fail
  go_wp2_with fail
  refine HC1.out.mono ?_
  rintro e w2 ⟨ro, rc, rfl, ho2, hb2⟩
  have HC3 := HC2 w2 hb2
  have HP2 := hidW (HP1.out.kept hb2)
  have HO2 := hidW ho2
  have HB2 : Hid (RowKit.Below N w w2) := HB1.out.trans (hb2.mono (Nat.le_trans hNw HB1.out.size))
  have HLs := hidW HP1.out.ls
  have HNW : Hid (N ≤ W1.heap.size) := Nat.le_trans hNw HB1.out.size
  have HT12 : Hid (TyF (fun T => T = 3) W1 w2) := TyF.ofBelow hb2
  have HNw2 : Hid (N ≤ w2.heap.size) := Nat.le_trans hNw HB2.out.size
  clear ho2 hb2 HC1 HC2 HP1 HB1 o0 o1 o2 p0 p1 p2 p3 p4 p5 pf HPs1 HO1
  obtain ⟨_, p1, p2, p3, p4, p5, pf⟩ := HP2.out.pq.cell
  go_wp2_with fail
  refine HC3.out.mono ?_
  rintro e w3 ⟨ro2, rc2, rfl, ho3, hb3⟩
  have HP3 := hidW (HP2.out.kept hb3)
  have HO2' : Hid (OwZ W1.heap.size 3 w3 ro P.length rc (iNs P)) := HO2.out.kept (fun g hg => hb3.block _ (HO2.out.lt g hg).2)
  have HO3 := hidW ho3
  have HT13 : Hid (TyF (fun T => T = 3) W1 w3) := fun k C T hk hT => by
    have e1 := HT12.out k C T hk hT
    exact (hb3.block k (blk_ltZ (e1.trans hk))).trans e1
  have HB3 : Hid (RowKit.Below N w w3) := HB2.out.trans (hb3.mono (Nat.le_trans hNw HB2.out.size))
  clear ho3 hb3 HC3 HP2 HB2 HO2 p1 p2 p3 p4 p5 pf
  obtain ⟨_, p1, p2, p3, p4, p5, pf⟩ := HP3.out.pq.cell
  have HI3 : Hid (PI N w3 pb n cb B X lb ao nt tc ts lo lc rb ra rk ba bc db no nc lio lic t wo wc t vs1 vs2 l k l k) := ⟨HP3.out.pq, HP3.out.dl, HP3.out.li, HP3.out.wa, HP3.out.ne, HP3.out.dn⟩
  have HA1 := hidW (HI3.out.app1 (Nat.le_trans hNw HB3.out.size) htb ro P.length rc)
  obtain ⟨pl, hpl⟩ : ∃ pl, pl = P.length := ⟨_, rfl⟩
  rw [← hpl] at HA1 HO2' HO3 hPl ⊢
  have HPL := hidW hpl
  clear HP3 hpl
  go_upto_region 7 with (at_builtin; refine wpL_appZ rfl _ _ 53 rfl (.slice lio t lic) (.slice (some ⟨w3.heap.size, 0, none⟩) 1 1) rfl rfl HA1.out ?_; rintro v4 w4 ⟨lio', lic', rfl, HQ4⟩; have d4 := HQ4.out.1; have f4 := HQ4.out.2.1)
  have HI5 := hidW HQ4.out.2.2.1
  have HB5 : Hid (RowKit.Below N w (w4.setCell ⟨pb, 4, none⟩ (.slice lio' (t + 1) lic'))) := HB3.out.trans HQ4.out.2.2.2.1
  have HT5 := hidW HQ4.out.2.2.2.2
  clear HQ4 d4 f4 HA1 HI3 p1 p2 p3 p4 p5 pf HB3
  generalize w4.setCell ⟨pb, 4, none⟩ (.slice lio' (t + 1) lic') = w5 at *
  have HO5 : Hid (OwZ W1.heap.size 3 w5 ro pl rc (iNs P)) := HO2'.out.kept (fun g hg => by obtain ⟨C, hC⟩ := HO2'.out.ty g hg; exact HT5.out _ _ _ hC (by decide))
  have HO6 : Hid (OwZ w2.heap.size 3 w5 ro2 pl rc2 (iNs P)) := HO3.out.kept (fun g hg => by obtain ⟨C, hC⟩ := HO3.out.ty g hg; exact HT5.out _ _ _ hC (by decide))
  have HA2 := hidW (HI5.out.app2 (Nat.le_trans hNw HB5.out.size) htb ro2 pl rc2)
  have p5 := HI5.out.pq.cell.2.2.2.2.2.1
  have HT15 : Hid (TyF (fun T => T = 3) W1 w5) := fun k C T hk hT => by
    have e1 := HT13.out k C T hk hT
    exact (HT5.out k C T (e1.trans hk) (by rw [hT]; decide)).trans e1
  clear HT5 HO2' HO3 HT12 HT13
  go_upto_region 8 with (at_builtin; refine wpL_appZ rfl _ _ 53 rfl (.slice wo t wc) (.slice (some ⟨w5.heap.size, 0, none⟩) 1 1) rfl rfl HA2.out ?_; rintro v6 w6 ⟨wo', wc', rfl, HQ6⟩; have d6 := HQ6.out.1; have f6 := HQ6.out.2.1)
  have HI7 := hidW HQ6.out.2.2.1
  have HB7 : Hid (RowKit.Below N w (w6.setCell ⟨pb, 5, none⟩ (.slice wo' (t + 1) wc'))) := HB5.out.trans HQ6.out.2.2.2.1
  have HT7 := hidW HQ6.out.2.2.2.2
  clear HQ6 d6 f6 HA2 HI5 p5 HB5
  generalize w6.setCell ⟨pb, 5, none⟩ (.slice wo' (t + 1) wc') = w7 at *
  have HW1 : Hid (WAt w7 ro (iNs P)) := HO5.out.at_.sameZ (fun g hg => by obtain ⟨C, hC⟩ := HO5.out.ty g hg; exact HT7.out _ _ _ hC (by decide))
  have HW2 : Hid (WAt w7 ro2 (iNs P)) := HO6.out.at_.sameZ (fun g hg => by obtain ⟨C, hC⟩ := HO6.out.ty g hg; exact HT7.out _ _ _ hC (by decide))
  have HT17 : Hid (TyF (fun T => T = 3) W1 w7) := fun k C T hk hT => by
    have e1 := HT15.out k C T hk hT
    exact (HT7.out k C T (e1.trans hk) (by rw [hT]; decide)).trans e1
  have HLs7 : Hid (LSZ N w7 (t + 1) (vs1 ++ [.slice ro pl rc]) (vs2 ++ [.slice ro2 pl rc2])) := by
    have a1 := HO5.out.kept (w' := w7) (fun g hg => by obtain ⟨C, hC⟩ := HO5.out.ty g hg; exact HT7.out _ _ _ hC (by decide))
    have a2 := HO6.out.kept (w' := w7) (fun g hg => by obtain ⟨C, hC⟩ := HO6.out.ty g hg; exact HT7.out _ _ _ hC (by decide))
    rw [HPL.out] at a1 a2
    rw [HPL.out]
    exact HLs.out.push HT17.out a1 a2 (Nat.le_refl _) HNW.out HNw2.out (by have := HPL.out; omega)
  have HSm := hidW (sameIntsZ2 w7 ro ro2 pl rc rc2 (P.map Int.ofNat) HW1.out HW2.out (by rw [HPL.out]; simp) (by omega))
  have HE : Hid (∀ q, StP N w pb n B nt ts t (.returned (.bool true)) (w7.drewN q)) := fun q => by
    have hb := below_drewN (Below.refl w7.heap.size w7) q
    have hpa : PA N w7 pb n cb B X lb ao nt tc ts lo lc rb ra rk ba bc db no nc lio' lic' wo' wc' (t + 1) _ _ l k l k := ⟨HI7.out.pq, HI7.out.dl, HI7.out.li, HI7.out.wa, HI7.out.ne, HI7.out.dn, HLs7.out⟩
    exact ⟨rfl, t + 1, by omega, ⟨cb, X, lb, ao, tc, lo, lc, rb, ra, rk, ba, bc, db, no, nc, lio', lic', wo', wc', _, _, l, k, hpa.kept hb⟩, below_drewN HB7.out q⟩
  clear HI7 HB7 HT7 HO5 HO6 HW1 HW2 HPL HT15 HT17 HLs HLs7
  go_wp2_with fail
  refine HSm.out.mono ?_
  rintro e w8 ⟨rfl, q, hw8⟩
  have HE1 : Hid (StP N w pb n B nt ts t (.returned (.bool true)) w8) := by rw [hw8]; exact HE.out q
  clear hw8 HE
  go_wp2
  go_ret
  exact HE1.out
end Go.Proofs.Yteobmijfbjgccaa
