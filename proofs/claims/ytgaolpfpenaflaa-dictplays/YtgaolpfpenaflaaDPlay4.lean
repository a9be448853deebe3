/-
  played: Len and Size, Keys.
-/
import Derived.Test.YtgaolpfpenaflaaDPlay3
namespace Go.Proofs.Ytgaolpfpenaflaa
open Go.RowKit Go.Sort

set_option maxRecDepth 100000 in
set_option maxHeartbeats 1000000 in
theorem play_other (kd : Int) (hkd : kd < 1 ∨ 7 < kd) : PlayOK kd := by
  intro w D M L f P R base v es hh k x n two h hok h64 hk hx hm
  obtain ⟨k1, k2⟩ := k
  have HB1 : Hid (Below w.heap.size w (w.alloc (opo kd k1 k2 x n two))) := (Below.refl _ _).alloc (Nat.le_refl _) _
  have HX1 : Hid ((w.alloc (opo kd k1 k2 x n two)).heap[w.heap.size]? = some (opo kd k1 k2 x n two)) := heap_alloc_new _ _ rfl
  have HP : Hid (PL w D M L f P R base v es) := h
  have HK : Hid (KIn (k1, k2) ∧ In64 x ∧ PartOK f hh ∧ ∀ k, hh k < 18446744073709551616) := ⟨hk, hx, hok, h64⟩
  clear h hok h64 hk hx
  unfold opv
  go_enter Try.func11, Try.ntmps11
  have e1 : (kd == 1) = false := by simp; omega
  have e2 : (kd == 2) = false := by simp; omega
  have e3 : (kd == 3) = false := by simp; omega
  have e4 : (kd == 4) = false := by simp; omega
  have e5 : (kd == 5) = false := by simp; omega
  have e6 : (kd == 6) = false := by simp; omega
  have e7 : (kd == 7) = false := by simp; omega
  clear hkd
  go_wp2
  go_ret
  exact ⟨rfl, HP.out.quiet HB1.out⟩
set_option maxRecDepth 100000 in
set_option maxHeartbeats 1000000 in
theorem play_len : PlayOK 4 := by
  intro w D M L f P R base v es hh k x n two h hok h64 hk hx hm
  obtain ⟨k1, k2⟩ := k
  have HB1 : Hid (Below w.heap.size w (w.alloc (opo 4 k1 k2 x n two))) := (Below.refl _ _).alloc (Nat.le_refl _) _
  have HX1 : Hid ((w.alloc (opo 4 k1 k2 x n two)).heap[w.heap.size]? = some (opo 4 k1 k2 x n two)) := heap_alloc_new _ _ rfl
  have HP : Hid (PL w D M L f P R base v es) := h
  have HK : Hid (KIn (k1, k2) ∧ In64 x ∧ PartOK f hh ∧ ∀ k, hh k < 18446744073709551616) := ⟨hk, hx, hok, h64⟩
  clear h hok h64 hk hx
  unfold opv
  go_enter Try.func11, Try.ntmps11
  go_wp2_with fail
  generalize hW1 : w.alloc (.cells #[.int .i64 4, .int .i64 k1, .int .i64 k2, .int .i64 x, .int .i64 n, .bool two] 34) = W1 at *
  change Hid (Below w.heap.size w (w.alloc (.cells #[.int .i64 4, .int .i64 k1, .int .i64 k2, .int .i64 x, .int .i64 n, .bool two] 34))) at HB1
  change Hid ((w.alloc (.cells #[.int .i64 4, .int .i64 k1, .int .i64 k2, .int .i64 x, .int .i64 n, .bool two] 34)).heap[w.heap.size]? = some (opo 4 k1 k2 x n two)) at HX1
  rw [hW1] at HB1 HX1
  clear hW1
  have HP1 : Hid (PL W1 D M L f P R base v es) := HP.out.kept HB1.out
  obtain ⟨ao, cap, hv, _, _, _⟩ := HP1.out.ra.row.slice
  obtain ⟨z, hz⟩ : ∃ z, z = es.length := ⟨_, rfl⟩
  obtain ⟨m, hm2⟩ : ∃ m, m = (ptI P n es).length := ⟨_, rfl⟩
  rw [← hz] at hv
  have HC : Hid (∀ W, Below W1.heap.size W1 W → W.cell? ⟨R, 1, none⟩ = some (.slice ao z cap) ∧ W.cell? ⟨w.heap.size, 4, none⟩ = some (.int .i64 n)) := fun W hW => by
    have h1 := opo_cells ((hW.block _ (blk_lt HX1.out)).trans HX1.out)
    have h2 := (HP1.out.kept hW).ra.cells.2
    rw [hv] at h2
    exact ⟨h2, h1.2.2.2⟩
  have HLen : Hid (∀ W, Below W1.heap.size W1 W → Calls Try.prog 25 #[ptr D] W fun e w' => e = .returned (.int .i64 (z : Int)) ∧ Below W1.heap.size W1 w') := fun W hW => by
    refine (len_any W D M L P (hfn f) es (HP1.out.kept hW).da).mono ?_
    rintro e w' ⟨rfl, rfl⟩
    exact ⟨by rw [hz], hW⟩
  have HSz : Hid (∀ W, Below W1.heap.size W1 W → Calls Try.prog 33 #[ptr D, .int .i64 n] W fun e w' => e = .returned (.int .i64 (m : Int)) ∧ Below W1.heap.size W1 w') := fun W hW => by
    refine (size_any W D M L P (hfn f) es n (HP1.out.kept hW).da).mono ?_
    rintro e w' ⟨rfl, hb⟩
    exact ⟨by rw [hm2], hW.trans (hb.mono hW.size)⟩
  have HEa : Hid (∀ W, Below W1.heap.size W1 W → Calls Try.prog 14 #[ptr R, .int .i64 n] W fun e w' => ∃ a c, e = .returned (.slice a m c) ∧ Below W1.heap.size W1 w') := fun W hW => by
    refine (reach_any W base R P v es n (HP1.out.kept hW).ra (by omega)).mono ?_
    rintro e w' ⟨v', rfl, ho, hb⟩
    rw [fl_pt (fun e he => (HP1.out.da.pp e he).1)] at ho
    obtain ⟨a, c, e⟩ := own_sl ho
    exact ⟨a, c, by rw [e, hm2], hW.trans (hb.mono hW.size)⟩
  have HB0 : Hid (Below W1.heap.size W1 W1.drew) := ((Grew.refl W1).drewN 1).below
  obtain ⟨c0, o4⟩ := HC.out W1 (Below.refl _ _)
  clear hz hm2
  go_region_held3 (fun w' => w'.cell? ⟨R, 1, none⟩ = some (.slice ao z cap) ∧ w'.cell? ⟨w.heap.size, 4, none⟩ = some (.int .i64 n)) (first | exact HC.out _ HBe.out | exact HC.out _ HBs.out | exact HC.out _ HBq.out | go_keep) (first | (go_at_call 25; refine (HLen.out _ HB0.out).mono ?_; rintro e wq ⟨rfl, hbq⟩; have HBq : Hid (Below W1.heap.size W1 wq) := hbq; clear hbq) | (go_at_call 33; refine (HSz.out _ HBq.out).mono ?_; rintro e ws ⟨rfl, hbs⟩; have HBs : Hid (Below W1.heap.size W1 ws) := hbs; clear hbs) | (go_at_call 14; refine (HEa.out _ HBs.out).mono ?_; rintro e we ⟨ae, ce, rfl, hbe⟩; have HBe : Hid (Below W1.heap.size W1 we) := hbe; clear hbe))
  all_goals (
    have HF : Hid (PP W1 D M L f P R base v es we) := HP1.out.quiet HBe.out
    go_wp2
    go_ret
    exact ⟨by simp, HF.out.back HB1.out HP.out⟩)
end Go.Proofs.Ytgaolpfpenaflaa
