/-
  played: Keys; all kinds.
-/
import Derived.Test.YtgaolpfpenaflaaDPlay4
namespace Go.Proofs.Ytgaolpfpenaflaa
open Go.RowKit Go.Sort

set_option maxRecDepth 100000 in
set_option maxHeartbeats 1000000 in
theorem play_keys : PlayOK 5 := by
  intro w D M L f P R base v es hh k x n two h hok h64 hk hx hm
  obtain ⟨k1, k2⟩ := k
  have HB1 : Hid (Below w.heap.size w (w.alloc (opo 5 k1 k2 x n two))) := (Below.refl _ _).alloc (Nat.le_refl _) _
  have HX1 : Hid ((w.alloc (opo 5 k1 k2 x n two)).heap[w.heap.size]? = some (opo 5 k1 k2 x n two)) := heap_alloc_new _ _ rfl
  have HP : Hid (PL w D M L f P R base v es) := h
  have HK : Hid (KIn (k1, k2) ∧ In64 x ∧ PartOK f hh ∧ ∀ k, hh k < 18446744073709551616) := ⟨hk, hx, hok, h64⟩
  clear h hok h64 hk hx
  unfold opv
  go_enter Try.func11, Try.ntmps11
  go_wp2_with fail
  generalize hW1 : w.alloc (.cells #[.int .i64 5, .int .i64 k1, .int .i64 k2, .int .i64 x, .int .i64 n, .bool two] 34) = W1 at *
  change Hid (Below w.heap.size w (w.alloc (.cells #[.int .i64 5, .int .i64 k1, .int .i64 k2, .int .i64 x, .int .i64 n, .bool two] 34))) at HB1
  change Hid ((w.alloc (.cells #[.int .i64 5, .int .i64 k1, .int .i64 k2, .int .i64 x, .int .i64 n, .bool two] 34)).heap[w.heap.size]? = some (opo 5 k1 k2 x n two)) at HX1
  rw [hW1] at HB1 HX1
  clear hW1
  have HP1 : Hid (PL W1 D M L f P R base v es) := HP.out.kept HB1.out
  obtain ⟨l, hl⟩ : ∃ l, l = ptI P n es := ⟨_, rfl⟩
  obtain ⟨m, hm2⟩ : ∃ m, m = l.length := ⟨_, rfl⟩
  have hmm : m ≤ 3000000000000 := by
    have h1 : (ptI P n es).length ≤ es.length := by unfold ptI; split; · exact List.length_filter_le _ _
                                                    · simp
    rw [hm2, hl]; omega
  have HC : Hid (∀ W, Below W1.heap.size W1 W → W.cell? ⟨w.heap.size, 4, none⟩ = some (.int .i64 n)) := fun W hW => (opo_cells ((hW.block _ (blk_lt HX1.out)).trans HX1.out)).2.2.2
  have HT : Hid (∀ W, Below W1.heap.size W1 W → Calls Try.prog 13 #[ptr D, .int .i64 n] W fun e w' => ∃ a c, e = .returned (.slice a m c) ∧ PrAt w' a l ∧ Below W1.heap.size W1 w') := fun W hW => by
    refine (told_any W D M L P (hfn f) es n (HP1.out.kept hW).da (by omega)).mono ?_
    rintro e w' ⟨v', rfl, ho, hb⟩
    rw [← hl] at ho
    obtain ⟨a, c, e, hp, _⟩ := ho.slice
    exact ⟨a, c, by rw [e, hm2], hp, hW.trans (hb.mono hW.size)⟩
  have HEa : Hid (∀ W a, Below W1.heap.size W1 W ∧ PrAt W a l → Calls Try.prog 14 #[ptr R, .int .i64 n] W fun e w' => ∃ b d, e = .returned (.slice b m d) ∧ (PrAt w' a l ∧ PrAt w' b l) ∧ Below W1.heap.size W1 w') := fun W a ⟨hW, hpa⟩ => by
    refine (reach_any W base R P v es n (HP1.out.kept hW).ra (by omega)).mono ?_
    rintro e w' ⟨v', rfl, ho, hb⟩
    rw [fl_pt (fun e he => (HP1.out.da.pp e he).1), ← hl] at ho
    obtain ⟨b, c, e, hp, _⟩ := ho.slice
    exact ⟨b, c, by rw [e, hm2], ⟨hpa.kept hb, hp⟩, hW.trans (hb.mono hW.size)⟩
  have HS : Hid (∀ W a b c d, Below W1.heap.size W1 W ∧ PrAt W a l ∧ PrAt W b l → Calls Try.prog 12 #[.slice a m c, .slice b m d] W fun e w' => e = .returned (.bool true) ∧ Below W1.heap.size W1 w') := fun W a b c d ⟨hW, hpa, hpb⟩ => by
    refine (same_eq W a b m c d l hm2 hpa hpb (by omega)).mono ?_
    rintro e w' ⟨rfl, q, rfl⟩
    exact ⟨rfl, hW.os, hW.tape, hW.output, hW.size, hW.block⟩
  have HB0 : Hid (Below W1.heap.size W1 W1.drew) := ((Grew.refl W1).drewN 1).below
  have o4 := HC.out W1 (Below.refl _ _)
  clear hl hm2
  go_region_held3 (fun w' => w'.cell? ⟨w.heap.size, 4, none⟩ = some (.int .i64 n)) (first | exact HC.out _ HBg.out | exact HC.out _ HBf.out.1 | exact HC.out _ HBe.out.1 | exact HC.out _ HBd.out | exact HC.out _ HBc.out.1 | exact HC.out _ HBb.out.1 | go_keep) (first
    | (go_at_call 13; refine (HT.out _ HBd.out).mono ?_; rintro e we ⟨ae, ce, rfl, hp, hb⟩; have HBe : Hid (Below W1.heap.size W1 we ∧ PrAt we ae l) := ⟨hb, hp⟩; clear hp hb)
    | (go_at_call 13; refine (HT.out _ HB0.out).mono ?_; rintro e wb ⟨ab, cb, rfl, hp, hb⟩; have HBb : Hid (Below W1.heap.size W1 wb ∧ PrAt wb ab l) := ⟨hb, hp⟩; clear hp hb)
    | (go_at_call 14; refine (HEa.out _ _ HBe.out).mono ?_; rintro e wf ⟨af, cf, rfl, hp, hb⟩; have HBf : Hid (Below W1.heap.size W1 wf ∧ PrAt wf ae l ∧ PrAt wf af l) := ⟨hb, hp⟩; clear hp hb)
    | (go_at_call 14; refine (HEa.out _ _ HBb.out).mono ?_; rintro e wc ⟨ac, cc, rfl, hp, hb⟩; have HBc : Hid (Below W1.heap.size W1 wc ∧ PrAt wc ab l ∧ PrAt wc ac l) := ⟨hb, hp⟩; clear hp hb)
    | (go_at_call 12; refine (HS.out _ _ _ _ _ HBf.out).mono ?_; rintro e wg ⟨rfl, hb⟩; have HBg : Hid (Below W1.heap.size W1 wg) := hb; clear hb)
    | (go_at_call 12; refine (HS.out _ _ _ _ _ HBc.out).mono ?_; rintro e wd ⟨rfl, hb⟩; have HBd : Hid (Below W1.heap.size W1 wd) := hb; clear hb))
  all_goals (
    have HF : Hid (PP W1 D M L f P R base v es wg) := HP1.out.quiet HBg.out
    go_wp2
    go_ret
    exact ⟨by simp, HF.out.back HB1.out HP.out⟩)

theorem played_any (kd : Int) : PlayOK kd := by
  by_cases h : kd < 1 ∨ 7 < kd
  · exact play_other kd h
  · have : kd = 1 ∨ kd = 2 ∨ kd = 3 ∨ kd = 4 ∨ kd = 5 ∨ kd = 6 ∨ kd = 7 := by omega
    rcases this with rfl | rfl | rfl | rfl | rfl | rfl | rfl
    · exact play_put
    · exact play_get
    · exact play_take
    · exact play_len
    · exact play_keys
    · exact play_part
    · exact play_clear
end Go.Proofs.Ytgaolpfpenaflaa
