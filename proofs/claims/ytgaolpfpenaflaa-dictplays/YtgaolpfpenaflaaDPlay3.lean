/-
  played: Part.
-/
import Derived.Test.YtgaolpfpenaflaaDPlay2
namespace Go.Proofs.Ytgaolpfpenaflaa
open Go.RowKit Go.Sort

set_option maxRecDepth 100000 in
set_option maxHeartbeats 1000000 in
theorem play_part : PlayOK 6 := by
  intro w D M L f P R base v es hh k x n two h hok h64 hk hx hm
  obtain ⟨k1, k2⟩ := k
  have HB1 : Hid (Below w.heap.size w (w.alloc (opo 6 k1 k2 x n two))) := (Below.refl _ _).alloc (Nat.le_refl _) _
  have HX1 : Hid ((w.alloc (opo 6 k1 k2 x n two)).heap[w.heap.size]? = some (opo 6 k1 k2 x n two)) := heap_alloc_new _ _ rfl
  have HP : Hid (PL w D M L f P R base v es) := h
  have HK : Hid (KIn (k1, k2) ∧ In64 x ∧ PartOK f hh ∧ ∀ k, hh k < 18446744073709551616) := ⟨hk, hx, hok, h64⟩
  clear h hok h64 hk hx
  unfold opv
  go_enter Try.func11, Try.ntmps11
  go_wp2_with fail
  generalize hW1 : w.alloc (.cells #[.int .i64 6, .int .i64 k1, .int .i64 k2, .int .i64 x, .int .i64 n, .bool two] 34) = W1 at *
  change Hid (Below w.heap.size w (w.alloc (.cells #[.int .i64 6, .int .i64 k1, .int .i64 k2, .int .i64 x, .int .i64 n, .bool two] 34))) at HB1
  change Hid ((w.alloc (.cells #[.int .i64 6, .int .i64 k1, .int .i64 k2, .int .i64 x, .int .i64 n, .bool two] 34)).heap[w.heap.size]? = some (opo 6 k1 k2 x n two)) at HX1
  rw [hW1] at HB1 HX1
  clear hW1
  have HP1 : Hid (PL W1 D M L f P R base v es) := HP.out.kept HB1.out
  obtain ⟨q, hq⟩ : ∃ q, q = hh (k1, k2) := ⟨_, rfl⟩
  have hq64 : q < 18446744073709551616 := by rw [hq]; exact HK.out.2.2.2 _
  have hP := HP1.out.ra.P0
  have HPd : Hid (∀ W, Below W1.heap.size W1 W → Calls Try.prog 34 #[ptr D, .agg #[.int .i64 k1, .int .i64 k2]] W fun e w' => e = .returned (.int .i64 ((q : Int) % (P : Int))) ∧ Below W.heap.size W w') := fun W hW => by
    have := HK.out.2.2.1 W D M L P es (k1, k2) (HP1.out.kept hW).da
    rw [← hq, Int.natCast_emod] at this
    exact this
  have HB0 : Hid (Below W1.heap.size W1 W1.drew) := ((Grew.refl W1).drewN 1).below
  rw [← hq]
  clear hq
  have HC : Hid (∀ W, Below W1.heap.size W1 W → W.cell? ⟨R, 0, none⟩ = some (.int .i64 (P : Int)) ∧ W.cell? ⟨w.heap.size, 1, none⟩ = some (.int .i64 k1) ∧ W.cell? ⟨w.heap.size, 2, none⟩ = some (.int .i64 k2)) := fun W hW => by
    have h1 := opo_cells ((hW.block _ (blk_lt HX1.out)).trans HX1.out)
    exact ⟨(HP1.out.kept hW).ra.cells.1, h1.1, h1.2.1⟩
  obtain ⟨c0, o1, o2⟩ := HC.out W1 (Below.refl _ _)
  have hmd : (q : Int) % (P : Int) < 256 := by have := Int.emod_lt_of_pos (q : Int) (show (0 : Int) < P by omega); omega
  have hmd0 : 0 ≤ (q : Int) % (P : Int) := Int.emod_nonneg _ (by omega)
  have hw1 : IntKind.u64.wrap (P : Int) = (P : Int) := by rw [IntKind.wrap_u64]; omega
  have hw2 : (q : Int).tmod (P : Int) = (q : Int) % (P : Int) := Int.tmod_eq_emod_of_nonneg (by omega)
  have hw3 : wrap64 ((q : Int) % (P : Int)) = (q : Int) % (P : Int) := by unfold wrap64; omega
  have hw6 : IntKind.i64.wrap ((q : Int) % (P : Int)) = (q : Int) % (P : Int) := by first | exact hw3 | (rw [IntKind.wrap_i64]; omega)
  have hw4 : ¬ (P : Int) = 0 := by omega
  have hw5 : ¬ P = 0 := by omega
  go_region_held3 (fun w' => w'.cell? ⟨R, 0, none⟩ = some (.int .i64 (P : Int)) ∧ w'.cell? ⟨w.heap.size, 1, none⟩ = some (.int .i64 k1) ∧ w'.cell? ⟨w.heap.size, 2, none⟩ = some (.int .i64 k2)) (first | exact HC.out _ HBq.out | go_keep) (first | (go_at_call 34; refine (HPd.out _ HB0.out).mono ?_; rintro e wq ⟨rfl, hbq⟩; have HBq : Hid (Below W1.heap.size W1 wq) := HB0.out.trans (hbq.mono HB0.out.size); clear hbq))
  all_goals (
    have HF : Hid (PP W1 D M L f P R base v es wq) := HP1.out.quiet HBq.out
    go_wp2
    go_ret
    exact ⟨by simp, HF.out.back HB1.out HP.out⟩)
end Go.Proofs.Ytgaolpfpenaflaa
