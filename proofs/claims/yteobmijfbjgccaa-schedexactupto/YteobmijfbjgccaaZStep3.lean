/-
  A pair's step, by kinds.
-/
import Derived.Test.YteobmijfbjgccaaZStepH
namespace Go.Proofs.Yteobmijfbjgccaa
open Go.RowKit Go.Sort

set_option maxRecDepth 100000 in
set_option maxHeartbeats 4000000 in
theorem step3Z : StepOK 3 := by
  intro N w pb n B nt ts t x a c m ps hPS hn htb hNw hm hmb ha ha0 hab
  obtain ⟨cb, X, lb, ao, tc, lo, lc, rb, ra, rk, ba, bc, db, no, nc, lio, lic, wo, wc, vs1, vs2, l, k, hpa⟩ := hPS
  obtain ⟨W, hW⟩ : ∃ W, W = w.alloc (.cells #[.int .i64 3, .int .i64 x, .slice a m c] 33) := ⟨_, rfl⟩
  have hbW : RowKit.Below w.heap.size w W := by rw [hW]; exact (Below.refl _ _).alloc (Nat.le_refl _) _
  have hob : W.heap[w.heap.size]? = some (.cells #[.int .i64 3, .int .i64 x, .slice a m c] 33 (0, 0)) := by rw [hW]; exact heap_alloc_new _ _ rfl
  have HP0 := hidW (hpa.kept hbW)
  have HB0 : Hid (RowKit.Below N w W) := hbW.mono hNw
  have HPsW := hidW (ha.below hbW)
  have HM := hidW hm
  have HAb := hidW hab
  have HA0 := hidW ha0
  have HWi := hidW (fun (q : Nat) => within_any (W.drewN q) x n (by omega))
  obtain ⟨ob, hobe⟩ : ∃ ob, ob = w.heap.size := ⟨_, rfl⟩
  rw [← hobe] at hob
  have o0 : W.cell? ⟨ob, 0, none⟩ = some (.int .i64 3) := by simp [World.cell?, hob]
  have o1 : W.cell? ⟨ob, 1, none⟩ = some (.int .i64 x) := by simp [World.cell?, hob]
  have o2 : W.cell? ⟨ob, 2, none⟩ = some (.slice a m c) := by simp [World.cell?, hob]
  have p0 := HP0.out.pq.cell.1
  have HOb : Hid (W.heap[ob]? = some (.cells #[.int .i64 3, .int .i64 x, .slice a m c] 33 (0, 0))) := hob
  clear hpa hbW hob ha hm hab ha0
  go_enter Try.func13, Try.ntmps13
  go_upto_region 1 with fail
  rw [← hobe, show w.alloc (.cells #[.int .i64 3, .int .i64 x, .slice a m c] 33) = W from hW.symm]
  clear hobe hW
  go_quiet (first | (go_at_call 24; exact Calls.quiet_of_same (HWi.out _)))
  have hbq : RowKit.Below W.heap.size W (W.drewN nq) := below_drewN (Below.refl _ _) nq
  have HP1 := hidW (HP0.out.kept hbq)
  have HB1 : Hid (RowKit.Below N w (W.drewN nq)) := below_drewN HB0.out nq
  have HO1 : Hid ((W.drewN nq).heap[ob]? = some (.cells #[.int .i64 3, .int .i64 x, .slice a m c] 33 (0, 0))) := HOb.out
  have HPs1 := hidW (HPsW.out.below hbq)
  clear HP0 HB0 HOb HPsW HWi o0 o1 o2 p0 hbq
  generalize W.drewN nq = W1 at *
  have o0 : W1.cell? ⟨ob, 0, none⟩ = some (.int .i64 3) := by simp [World.cell?, HO1.out]
  have o1 : W1.cell? ⟨ob, 1, none⟩ = some (.int .i64 x) := by simp [World.cell?, HO1.out]
  have o2 : W1.cell? ⟨ob, 2, none⟩ = some (.slice a m c) := by simp [World.cell?, HO1.out]
  obtain ⟨p0, p1, p2, p3, p4, p5, pf⟩ := HP1.out.pq.cell
  have hd1 : RowKit.Below W1.heap.size W1 W1.drew := ⟨rfl, rfl, rfl, Nat.le_refl _, fun _ _ => rfl⟩
  have HPd := hidW (HP1.out.kept hd1)
  have HC : Hid (Calls Try.prog 20 #[ptZ lb, .int .i64 x] W1.drew fun e w' => ∃ (r : Int), e = .returned (.int .i64 r) ∧ (w'.cell? ⟨pb, 1, none⟩ = some (ptZ lb) ∧ w'.cell? ⟨pb, 3, none⟩ = some (ptZ db) ∧ w'.cell? ⟨ob, 1, none⟩ = some (.int .i64 x)) ∧ Hid (Calls Try.prog 33 #[ptZ db, .int .i64 x] w' fun e w'' => e = .returned (.int .i64 r) ∧ (w''.cell? ⟨pb, 1, none⟩ = some (ptZ lb) ∧ w''.cell? ⟨pb, 3, none⟩ = some (ptZ db) ∧ w''.cell? ⟨ob, 1, none⟩ = some (.int .i64 x)) ∧ Hid (StP N w pb n B nt ts t (.returned (.bool true)) w''))) := by
    refine Calls.mono (drain_any HPd.out.pq.sl x) ?_
    rintro e w2 ⟨rfl, h1, h2⟩
    obtain ⟨hp2, hT2⟩ := HPd.out.goC h1 h2
    have hge := HPd.out.ge
    have c2 := hp2.pq.cell
    have ho2 : w2.heap[ob]? = W1.heap[ob]? := hT2 _ _ _ (show W1.drew.heap[ob]? = some (.cells #[.int .i64 3, .int .i64 x, .slice a m c] 33 (0, 0)) from HO1.out) (by decide)
    refine ⟨_, rfl, ⟨c2.2.1, c2.2.2.2.1, by simp [World.cell?, ho2, HO1.out]⟩, ?_⟩
    refine Calls.mono (rdrain_any hp2.dl x) ?_
    rintro e w3 ⟨rfl, h3, h4⟩
    obtain ⟨hp3, hT3⟩ := hp2.goD h3 h4
    have c3 := hp3.pq.cell
    have ho3 : w3.heap[ob]? = w2.heap[ob]? := hT3 _ _ _ (ho2.trans HO1.out) (by decide)
    refine ⟨rfl, ⟨c3.2.1, c3.2.2.2.1, by simp [World.cell?, ho3, ho2, HO1.out]⟩, rfl, t, by omega, ⟨cb, X, lb, ao, tc, lo, lc, rb, ra, rk, ba, bc, db, no, nc, lio, lic, wo, wc, vs1, vs2, _, _, hp3⟩, ?_⟩
    have hb1 : RowKit.Below N w W1.drew := ⟨HB1.out.os, HB1.out.tape, HB1.out.output, HB1.out.size, HB1.out.block⟩
    have hb2 : RowKit.Below N w w2 := hb1.trans (h2.below (Nat.le_trans hNw hb1.size) hge.1)
    exact hb2.trans (h4.below (Nat.le_trans hNw hb2.size) hge.2)
  clear HPd hd1 HP1 HB1 p0 p2 p4 p5 pf HPs1 HO1
  go_upto_region 18 with fail
  go_region_held3 (fun w' => w'.cell? ⟨pb, 1, none⟩ = some (ptZ lb) ∧ w'.cell? ⟨pb, 3, none⟩ = some (ptZ db) ∧ w'.cell? ⟨ob, 1, none⟩ = some (.int .i64 x)) (first | with_reducible exact HSy.out | with_reducible exact HSx.out | go_keep) (first
    | (go_at_call 20; (with_reducible refine HC.out.mono ?_); rintro e w2 ⟨r, rfl, hsx, HD⟩; have HSx := hidW hsx; clear hsx)
    | (go_at_call 33; (with_reducible refine HD.out.mono ?_); rintro e w3 ⟨rfl, hsy, HE⟩; have HSy := hidW hsy; clear hsy))
  all_goals
    go_wp2_with fail
    go_ret
    exact HE.out
end Go.Proofs.Yteobmijfbjgccaa
