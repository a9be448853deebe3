/-
  A pair's step, by kinds.
-/
import Derived.Test.YteobmijfbjgccaaZStepH
namespace Go.Proofs.Yteobmijfbjgccaa
open Go.RowKit Go.Sort

set_option maxRecDepth 100000 in
set_option maxHeartbeats 4000000 in
theorem step5Z : StepOK 5 := by
  intro N w pb n B nt ts t x a c m ps hPS hn htb hNw hm hmb ha ha0 hab
  obtain ⟨cb, X, lb, ao, tc, lo, lc, rb, ra, rk, ba, bc, db, no, nc, lio, lic, wo, wc, vs1, vs2, l, k, hpa⟩ := hPS
  obtain ⟨W, hW⟩ : ∃ W, W = w.alloc (.cells #[.int .i64 5, .int .i64 x, .slice a m c] 33) := ⟨_, rfl⟩
  have hbW : RowKit.Below w.heap.size w W := by rw [hW]; exact (Below.refl _ _).alloc (Nat.le_refl _) _
  have hob : W.heap[w.heap.size]? = some (.cells #[.int .i64 5, .int .i64 x, .slice a m c] 33 (0, 0)) := by rw [hW]; exact heap_alloc_new _ _ rfl
  have HP0 := hidW (hpa.kept hbW)
  have HB0 : Hid (RowKit.Below N w W) := hbW.mono hNw
  have HPsW := hidW (ha.below hbW)
  have HM := hidW hm
  have HAb := hidW hab
  have HA0 := hidW ha0
  have HWi := hidW (fun (q : Nat) => within_any (W.drewN q) x n (by omega))
  obtain ⟨ob, hobe⟩ : ∃ ob, ob = w.heap.size := ⟨_, rfl⟩
  rw [← hobe] at hob
  have o0 : W.cell? ⟨ob, 0, none⟩ = some (.int .i64 5) := by simp [World.cell?, hob]
  have o1 : W.cell? ⟨ob, 1, none⟩ = some (.int .i64 x) := by simp [World.cell?, hob]
  have o2 : W.cell? ⟨ob, 2, none⟩ = some (.slice a m c) := by simp [World.cell?, hob]
  have p0 := HP0.out.pq.cell.1
  have HOb : Hid (W.heap[ob]? = some (.cells #[.int .i64 5, .int .i64 x, .slice a m c] 33 (0, 0))) := hob
  clear hpa hbW hob ha hm hab ha0
  go_enter Try.func13, Try.ntmps13
  go_upto_region 1 with fail
  rw [← hobe, show w.alloc (.cells #[.int .i64 5, .int .i64 x, .slice a m c] 33) = W from hW.symm]
  clear hobe hW
  go_quiet (first | (go_at_call 24; exact Calls.quiet_of_same (HWi.out _)))
  have hbq : RowKit.Below W.heap.size W (W.drewN nq) := below_drewN (Below.refl _ _) nq
  have HP1 := hidW (HP0.out.kept hbq)
  have HB1 : Hid (RowKit.Below N w (W.drewN nq)) := below_drewN HB0.out nq
  have HO1 : Hid ((W.drewN nq).heap[ob]? = some (.cells #[.int .i64 5, .int .i64 x, .slice a m c] 33 (0, 0))) := HOb.out
  have HPs1 := hidW (HPsW.out.below hbq)
  clear HP0 HB0 HOb HPsW HWi o0 o1 o2 p0 hbq
  generalize W.drewN nq = W1 at *
  have o0 : W1.cell? ⟨ob, 0, none⟩ = some (.int .i64 5) := by simp [World.cell?, HO1.out]
  have o1 : W1.cell? ⟨ob, 1, none⟩ = some (.int .i64 x) := by simp [World.cell?, HO1.out]
  have o2 : W1.cell? ⟨ob, 2, none⟩ = some (.slice a m c) := by simp [World.cell?, HO1.out]
  obtain ⟨p0, p1, p2, p3, p4, p5, pf⟩ := HP1.out.pq.cell
  by_cases hn0 : n = 0
  · have HE : Hid (∀ q, StP N w pb n B nt ts t (.returned (.bool true)) (W1.drewN q)) := fun q => ⟨rfl, t, by omega, ⟨cb, X, lb, ao, tc, lo, lc, rb, ra, rk, ba, bc, db, no, nc, lio, lic, wo, wc, vs1, vs2, l, k, HP1.out.kept (below_drewN (Below.refl _ W1) q)⟩, below_drewN HB1.out q⟩
    have hnI : ((n : Int) == 0) = true := by rw [hn0]; rfl
    replace hn0 := hidW hn0
    clear HP1 HB1
    go_upto_region 20 with fail
    go_quiet (fail)
    have HE1 := hidW (HE.out nq)
    generalize W1.drewN nq = W2 at *
    go_wp2_with fail
    go_ret
    exact HE1.out
  · obtain ⟨r1, r2⟩ := wiZ_range (x := x) (show 0 < n by omega)
    obtain ⟨i, hi⟩ : ∃ i : Nat, wiZ x n = (i : Int) := ⟨(wiZ x n).toNat, by omega⟩
    rw [hi] at r2 ⊢
    have hin : i < n := by omega
    have hnI : ((n : Int) == 0) = false := by rw [beq_eq_false_iff_ne]; omega
    have hnI2 : ¬ (n : Int) = 0 := by omega
    have HQ := hidW (fun (q : Nat) => HP1.out.kept (below_drewN (Below.refl _ W1) q))
    obtain ⟨lg, lof, hlo, e1⟩ := HP1.out.pq.ow.at_ i (ptZ (cb i)) (by simp [hin])
    obtain ⟨rg, hra, e2, _⟩ := HP1.out.dl.rd.cells hin
    have e3 : W1.cell? ⟨rb, 0, none⟩ = some (.slice ra n rk) := by simp [World.cell?, HP1.out.dl.rd.hd]
    rw [hlo] at p0
    rw [hra] at e3
    have HRd := hidW (fun (q : Nat) => ready_any (HQ.out q).pq.sl.ci i hin)
    have HLf := hidW (fun (q : Nat) => left_any (HQ.out q).pq.sl.ci i hin)
    have HRr := hidW (fun (q : Nat) => rready_any (HQ.out q).dl.rd (i : Int) (by omega))
    rw [show rtZ l B (i : Int) = rdZ l B i by simp [rtZ]] at HRr
    have HE : Hid (∀ q, StP N w pb n B nt ts t (.returned (.bool true)) (W1.drewN q)) := fun q => ⟨rfl, t, by omega, ⟨cb, X, lb, ao, tc, lo, lc, rb, ra, rk, ba, bc, db, no, nc, lio, lic, wo, wc, vs1, vs2, l, k, HQ.out q⟩, below_drewN HB1.out q⟩
    generalize rdZ l B i = rb1 at *
    generalize l i = li1 at *
    generalize cb i = cbi at *
    have hiI : (i : Int) < (n : Int) := by omega
    clear HP1 HB1 HQ hi r1 hlo hra
    go_upto_region 20 with fail
    cases rb1
    all_goals
      go_quiet (first
        | (go_at_call 34; exact Calls.quiet_of_same (HRd.out _))
        | (go_at_call 35; exact Calls.quiet_of_same (HRr.out _))
        | (go_at_call 23; exact Calls.quiet_of_same (HLf.out _)))
      have HE1 := hidW (HE.out nq)
      generalize W1.drewN nq = W2 at *
      go_wp2_with fail
      go_ret
      exact HE1.out
end Go.Proofs.Yteobmijfbjgccaa
