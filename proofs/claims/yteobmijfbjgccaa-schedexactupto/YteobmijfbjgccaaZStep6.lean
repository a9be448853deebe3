/-
  A pair's step, by kinds.
-/
import Derived.Test.YteobmijfbjgccaaZStepH
namespace Go.Proofs.Yteobmijfbjgccaa
open Go.RowKit Go.Sort

theorem rstepN_any {w : World} {N rb : Nat} {ra : Option Addr} {rk n : Nat} {ls : Nat → Nat} {B : Nat → List Int} {ba : Nat → Option Addr} {bc : Nat → Nat} (h : RD w N rb ra rk n ls B ba bc) (z : Int) (hz : z < (n : Int)) (hr : rtZ ls B z = false) : Calls Try.prog 37 #[ptZ rb, .int .i64 z] w fun e w' => e = .returned (.tuple #[]) ∧ w' = w := by
  have HR := hidW (rready_any h z hz)
  rw [hr] at HR
  clear h hr hz
  go_enter Try.func37, Try.ntmps37
  go_wp2_with fail
  refine HR.out.mono ?_
  rintro e w1 ⟨rfl, hw1⟩
  have hw1' := hw1.symm
  subst hw1'
  clear hw1
  go_wp2
  go_end0
  exact ⟨rfl, rfl⟩
set_option maxRecDepth 100000 in
set_option maxHeartbeats 4000000 in
theorem step6Z : StepOK 6 := by
  intro N w pb n B nt ts t x a c m ps hPS hn htb hNw hm hmb ha ha0 hab
  obtain ⟨cb, X, lb, ao, tc, lo, lc, rb, ra, rk, ba, bc, db, no, nc, lio, lic, wo, wc, vs1, vs2, l, k, hpa⟩ := hPS
  obtain ⟨W, hW⟩ : ∃ W, W = w.alloc (.cells #[.int .i64 6, .int .i64 x, .slice a m c] 33) := ⟨_, rfl⟩
  have hbW : RowKit.Below w.heap.size w W := by rw [hW]; exact (Below.refl _ _).alloc (Nat.le_refl _) _
  have hob : W.heap[w.heap.size]? = some (.cells #[.int .i64 6, .int .i64 x, .slice a m c] 33 (0, 0)) := by rw [hW]; exact heap_alloc_new _ _ rfl
  have HP0 := hidW (hpa.kept hbW)
  have HB0 : Hid (RowKit.Below N w W) := hbW.mono hNw
  have HPsW := hidW (ha.below hbW)
  have HM := hidW hm
  have HAb := hidW hab
  have HA0 := hidW ha0
  have HWi := hidW (fun (q : Nat) => within_any (W.drewN q) x n (by omega))
  obtain ⟨ob, hobe⟩ : ∃ ob, ob = w.heap.size := ⟨_, rfl⟩
  rw [← hobe] at hob
  have o0 : W.cell? ⟨ob, 0, none⟩ = some (.int .i64 6) := by simp [World.cell?, hob]
  have o1 : W.cell? ⟨ob, 1, none⟩ = some (.int .i64 x) := by simp [World.cell?, hob]
  have o2 : W.cell? ⟨ob, 2, none⟩ = some (.slice a m c) := by simp [World.cell?, hob]
  have p0 := HP0.out.pq.cell.1
  have HOb : Hid (W.heap[ob]? = some (.cells #[.int .i64 6, .int .i64 x, .slice a m c] 33 (0, 0))) := hob
  clear hpa hbW hob ha hm hab ha0
  go_enter Try.func13, Try.ntmps13
  go_upto_region 1 with fail
  rw [← hobe, show w.alloc (.cells #[.int .i64 6, .int .i64 x, .slice a m c] 33) = W from hW.symm]
  clear hobe hW
  go_quiet (first | (go_at_call 24; exact Calls.quiet_of_same (HWi.out _)))
  have hbq : RowKit.Below W.heap.size W (W.drewN nq) := below_drewN (Below.refl _ _) nq
  have HP1 := hidW (HP0.out.kept hbq)
  have HB1 : Hid (RowKit.Below N w (W.drewN nq)) := below_drewN HB0.out nq
  have HO1 : Hid ((W.drewN nq).heap[ob]? = some (.cells #[.int .i64 6, .int .i64 x, .slice a m c] 33 (0, 0))) := HOb.out
  have HPs1 := hidW (HPsW.out.below hbq)
  clear HP0 HB0 HOb HPsW HWi o0 o1 o2 p0 hbq
  generalize W.drewN nq = W1 at *
  have o0 : W1.cell? ⟨ob, 0, none⟩ = some (.int .i64 6) := by simp [World.cell?, HO1.out]
  have o1 : W1.cell? ⟨ob, 1, none⟩ = some (.int .i64 x) := by simp [World.cell?, HO1.out]
  have o2 : W1.cell? ⟨ob, 2, none⟩ = some (.slice a m c) := by simp [World.cell?, HO1.out]
  obtain ⟨p0, p1, p2, p3, p4, p5, pf⟩ := HP1.out.pq.cell
  by_cases hn0 : n = 0
  · have HE : Hid (StP N w pb n B nt ts t (.returned (.bool true)) W1) := ⟨rfl, t, by omega, ⟨cb, X, lb, ao, tc, lo, lc, rb, ra, rk, ba, bc, db, no, nc, lio, lic, wo, wc, vs1, vs2, l, k, HP1.out⟩, HB1.out⟩
    have hnI : ¬ (0 : Int) < (n : Int) := by omega
    replace hn0 := hidW hn0
    clear HP1 HB1
    go_wp2
    go_ret
    exact HE.out
  · obtain ⟨r1, r2⟩ := wiZ_range (x := x) (show 0 < n by omega)
    obtain ⟨i, hi⟩ : ∃ i : Nat, wiZ x n = (i : Int) := ⟨(wiZ x n).toNat, by omega⟩
    rw [hi] at r2 ⊢
    have hin : i < n := by omega
    have hnI : (0 : Int) < (n : Int) := by omega
    obtain ⟨lg, lof, hlo, e1⟩ := HP1.out.pq.ow.at_ i (ptZ (cb i)) (by simp [hin])
    rw [hlo] at p0
    have HC : Hid (Calls Try.prog 36 #[ptZ (cb i)] W1 fun e w' => e = .returned (.tuple #[]) ∧ w'.cell? ⟨pb, 2, none⟩ = some (ptZ rb) ∧ Hid (Calls Try.prog 37 #[ptZ rb, .int .i64 (i : Int)] w' fun e w'' => e = .returned (.tuple #[]) ∧ Hid (StP N w pb n B nt ts t (.returned (.bool true)) w''))) := by
      have hsl := HP1.out.pq.sl
      refine Calls.mono (step_any hsl.ci i hin) ?_
      rintro e w2 ⟨rfl, h1, h2⟩
      have h2' : FrZ (fun j => X j ∨ j = lb) W1 w2 := h2.mono (fun j _ e => .inl (by rw [e]; exact hsl.ci.xc i hin))
      obtain ⟨nx1, nx2⟩ := hsl.noX
      have hs2 : SL w2 n cb (if rdZ l B i then decZ l i else l) B X lb ao nt tc ts k := by
        refine ⟨h1, hsl.ln.same (h2.block _ (blk_ltZ hsl.ln.ln) (fun e => nx1 (by rw [e]; exact hsl.ci.xc i hin))) (fun g hg => ?_), hsl.tz, ?_, hsl.nb⟩
        · obtain ⟨C, hC⟩ := hsl.ln.rt g hg
          exact h2.block _ (blk_ltZ hC) (fun e => (nx2 g hg).1 (by rw [e]; exact hsl.ci.xc i hin))
        · have := hsl.pot
          split
          · rename_i hr
            have := totZ_dec hin (rdZ_pos hr).1
            omega
          · exact this
      obtain ⟨hp2, hT2⟩ := HP1.out.goC hs2 h2'
      have hge := HP1.out.ge
      refine ⟨rfl, hp2.pq.cell.2.2.1, ?_⟩
      have hb2 : RowKit.Below N w w2 := HB1.out.trans (h2'.below (Nat.le_trans hNw HB1.out.size) hge.1)
      cases hr : rdZ l B i with
      | true =>
        refine Calls.mono (rstep_any hp2.dl.rd (i : Int) (by omega) (by simp [rtZ, hr])) ?_
        rintro e w3 ⟨rfl, h3, h4⟩
        have h4' : FrZ (fun j => (∃ g, ra = some g ∧ g.block = j) ∨ j = db) w2 w3 := h4.mono (fun j _ e => .inl e)
        simp only [Int.toNat_natCast] at h3
        rw [hr] at hp2
        have hd3 : DL w3 N rb ra rk n (decZ l i) B ba bc db no nt nc ts k := by
          obtain ⟨m1, m2⟩ := hp2.dl.ne
          refine ⟨h3, (h4.block _ (blk_ltZ hp2.dl.dl) (fun hS => by obtain ⟨g, hg, e⟩ := hS; exact (m1 g hg).1 e)).trans hp2.dl.dl, hp2.dl.nw.sameZ (fun g hg => ?_), fun g hg => ?_, hp2.dl.tz, ?_, hp2.dl.nb⟩
          · obtain ⟨C, hC⟩ := hp2.dl.nk g hg
            exact h4.block _ (blk_ltZ hC) (fun hS => by obtain ⟨g', hg', e⟩ := hS; exact (m1 g' hg').2 g hg e.symm)
          · obtain ⟨C, hC⟩ := hp2.dl.nk g hg
            exact ⟨C, (h4.block _ (blk_ltZ hC) (fun hS => by obtain ⟨g', hg', e⟩ := hS; exact (m1 g' hg').2 g hg e.symm)).trans hC⟩
          · have := hp2.dl.pot
            have := totZ_dec hin (rdZ_pos hr).1
            omega
        obtain ⟨hp3, _⟩ := hp2.goD hd3 h4'
        exact ⟨rfl, rfl, t, by omega, ⟨cb, X, lb, ao, tc, lo, lc, rb, ra, rk, ba, bc, db, no, nc, lio, lic, wo, wc, vs1, vs2, _, _, hp3⟩, hb2.trans (h4'.below (Nat.le_trans hNw hb2.size) hge.2)⟩
      | false =>
        rw [hr] at hp2
        refine Calls.mono (rstepN_any hp2.dl.rd (i : Int) (by omega) (by simp [rtZ, hr])) ?_
        rintro e w3 ⟨rfl, rfl⟩
        exact ⟨rfl, rfl, t, by omega, ⟨cb, X, lb, ao, tc, lo, lc, rb, ra, rk, ba, bc, db, no, nc, lio, lic, wo, wc, vs1, vs2, _, _, hp2⟩, hb2⟩
    have hiI : (i : Int) < (n : Int) := by omega
    clear HP1 HB1 hi r1 hlo
    generalize cb i = cbi at *
    go_wp2_with fail
    refine HC.out.mono ?_
    rintro e w2 ⟨rfl, q2, HD⟩
    go_wp2_with fail
    refine HD.out.mono ?_
    rintro e w3 ⟨rfl, HE⟩
    go_wp2
    go_ret
    exact HE.out
end Go.Proofs.Yteobmijfbjgccaa
