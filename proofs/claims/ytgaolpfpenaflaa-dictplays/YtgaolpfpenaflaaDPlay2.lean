/-
  played: Take, Clear, Part, Len and Size, Keys, and any other.
-/
import Derived.Test.YtgaolpfpenaflaaDPlay
namespace Go.Proofs.Ytgaolpfpenaflaa
open Go.RowKit Go.Sort

set_option maxRecDepth 100000 in
set_option maxHeartbeats 1000000 in
theorem play_take : PlayOK 3 := by
  intro w D M L f P R base v es hh k x n two h hok h64 hk hx hm
  obtain ⟨k1, k2⟩ := k
  have HB1 : Hid (Below w.heap.size w (w.alloc (opo 3 k1 k2 x n two))) := (Below.refl _ _).alloc (Nat.le_refl _) _
  have HX1 : Hid ((w.alloc (opo 3 k1 k2 x n two)).heap[w.heap.size]? = some (opo 3 k1 k2 x n two)) := heap_alloc_new _ _ rfl
  have HP : Hid (PL w D M L f P R base v es) := h
  have HK : Hid (KIn (k1, k2) ∧ In64 x ∧ PartOK f hh ∧ ∀ k, hh k < 18446744073709551616) := ⟨hk, hx, hok, h64⟩
  clear h hok h64 hk hx
  unfold opv
  go_enter Try.func11, Try.ntmps11
  go_wp2_with fail
  generalize hW1 : w.alloc (.cells #[.int .i64 3, .int .i64 k1, .int .i64 k2, .int .i64 x, .int .i64 n, .bool two] 34) = W1 at *
  change Hid (Below w.heap.size w (w.alloc (.cells #[.int .i64 3, .int .i64 k1, .int .i64 k2, .int .i64 x, .int .i64 n, .bool two] 34))) at HB1
  change Hid ((w.alloc (.cells #[.int .i64 3, .int .i64 k1, .int .i64 k2, .int .i64 x, .int .i64 n, .bool two] 34)).heap[w.heap.size]? = some (opo 3 k1 k2 x n two)) at HX1
  rw [hW1] at HB1 HX1
  clear hW1
  have HP1 : Hid (PL W1 D M L f P R base v es) := HP.out.kept HB1.out
  have HXk : Hid (∀ W, Fr (Ft M L es) W1 W → W.heap[w.heap.size]? = some (opo 3 k1 k2 x n two)) := fun W hW => (hW.block _ (blk_lt HX1.out) (fun hf => by have := HP.out.lt (k := w.heap.size) (.inl (.inr hf)); omega)).trans HX1.out
  cases hc : fd es (k1, k2) with
  | some e0 =>
    refine (take_some W1 D M L P (hfn f) es (k1, k2) HP1.out.da HK.out.1 e0 hc (by omega)).mono ?_
    rintro e w2 ⟨rfl, ⟨A, C, hes, hd2⟩, hf2⟩
    obtain ⟨o1, o2, o3, o4⟩ := opo_cells (HXk.out w2 hf2)
    have HD2 : Hid (DA w2 D M L (hfn f) P (A ++ C) ∧ Fr (Ft M L es) W1 w2) := ⟨hd2, hf2⟩
    clear hd2 hf2
    go_wp2_with fail
    refine (rtake_some w2 base R P v es A C (k1, k2) e0 (HP1.out.ra1 HD2.out.2) (Nat.le_trans HP1.out.bs HD2.out.2.size) (by omega) HP1.out.da.kn hc hes).mono ?_
    rintro e w3 ⟨rfl, v3, hr3, hf3, hw3⟩
    have HF : Hid (PP W1 D M L f P R base v es w3) := HP1.out.step HD2.out.1 HD2.out.2 hr3 hf3 hw3 (fun e he => .inl ⟨e, by rw [hes]; simp only [List.mem_append, List.mem_cons] at he ⊢; exact he.imp id .inr, rfl⟩) (by rw [hes]; simp; omega)
    clear hr3 hf3 hes
    go_wp2
    go_ret
    exact ⟨by simp, HF.out.back HB1.out HP.out⟩
  | none =>
    refine (take_none W1 D M L P (hfn f) es (k1, k2) HP1.out.da HK.out.1 hc).mono ?_
    rintro e w2 ⟨rfl, hb2⟩
    obtain ⟨o1, o2, o3, o4⟩ := opo_cells (HXk.out w2 (Fr.ofBelow hb2))
    have HP2 : Hid (PL w2 D M L f P R base v es ∧ Below W1.heap.size W1 w2) := ⟨HP1.out.kept hb2, hb2⟩
    clear hb2
    go_wp2_with fail
    refine (rtake_none w2 base R P v es (k1, k2) HP2.out.1.ra (by omega) hc).mono ?_
    rintro e w3 ⟨rfl, hb3⟩
    have HF : Hid (PP W1 D M L f P R base v es w3) := HP1.out.quiet (HP2.out.2.trans (hb3.mono HP2.out.2.size))
    clear hb3
    go_wp2
    go_ret
    exact ⟨by simp, HF.out.back HB1.out HP.out⟩
set_option maxRecDepth 100000 in
set_option maxHeartbeats 1000000 in
theorem play_clear : PlayOK 7 := by
  intro w D M L f P R base v es hh k x n two h hok h64 hk hx hm
  obtain ⟨k1, k2⟩ := k
  have HB1 : Hid (Below w.heap.size w (w.alloc (opo 7 k1 k2 x n two))) := (Below.refl _ _).alloc (Nat.le_refl _) _
  have HX1 : Hid ((w.alloc (opo 7 k1 k2 x n two)).heap[w.heap.size]? = some (opo 7 k1 k2 x n two)) := heap_alloc_new _ _ rfl
  have HP : Hid (PL w D M L f P R base v es) := h
  have HK : Hid (KIn (k1, k2) ∧ In64 x ∧ PartOK f hh ∧ ∀ k, hh k < 18446744073709551616) := ⟨hk, hx, hok, h64⟩
  clear h hok h64 hk hx
  unfold opv
  go_enter Try.func11, Try.ntmps11
  go_wp2_with fail
  generalize hW1 : w.alloc (.cells #[.int .i64 7, .int .i64 k1, .int .i64 k2, .int .i64 x, .int .i64 n, .bool two] 34) = W1 at *
  change Hid (Below w.heap.size w (w.alloc (.cells #[.int .i64 7, .int .i64 k1, .int .i64 k2, .int .i64 x, .int .i64 n, .bool two] 34))) at HB1
  change Hid ((w.alloc (.cells #[.int .i64 7, .int .i64 k1, .int .i64 k2, .int .i64 x, .int .i64 n, .bool two] 34)).heap[w.heap.size]? = some (opo 7 k1 k2 x n two)) at HX1
  rw [hW1] at HB1 HX1
  clear hW1
  have HP1 : Hid (PL W1 D M L f P R base v es) := HP.out.kept HB1.out
  refine (clear_any W1 D M L P (hfn f) es HP1.out.da).mono ?_
  rintro e w2 ⟨rfl, hd2, hf2⟩
  have HD2 : Hid (DA w2 D M L (hfn f) P [] ∧ Fr (Ft M L es) W1 w2) := ⟨hd2, hf2⟩
  clear hd2 hf2
  go_wp2_with fail
  refine (rclear_any w2 base R P v es (HP1.out.ra1 HD2.out.2)).mono ?_
  rintro e w3 ⟨rfl, hr3, hf3⟩
  have HF : Hid (PP W1 D M L f P R base v es w3) := HP1.out.step HD2.out.1 HD2.out.2 hr3 ⟨hf3.os, hf3.tape, hf3.output, hf3.size, fun k hk hn => hf3.block k hk (fun e => hn (.inl e))⟩ (fun k hk => by cases hk) (fun e he => by cases he) (by simp)
  clear hr3 hf3
  go_wp2
  go_ret
  exact ⟨by simp, HF.out.back HB1.out HP.out⟩
end Go.Proofs.Ytgaolpfpenaflaa
