/-
  Take.
-/
import Derived.Test.YtenmkigoohpfmaaDTake1
namespace Go.Proofs.Ytenmkigoohpfmaa
open Go.RowKit Go.Sort

set_option maxRecDepth 100000 in
set_option maxHeartbeats 1000000 in
theorem take_none (w : World) (D M L P : Nat) (hf : Value) (es : List En) (k : K) (h : DA w D M L hf P es) (hk : KIn k) (hc : fd es k = none) :
    Calls Try.prog 6 #[ptr D, kv k] w fun e w' => e = .returned (.tuple #[.int .i64 0, .bool false]) ∧ Below w.heap.size w w' := by
  have HD : Hid (DA w D M L hf P es ∧ KIn k) := ⟨h, hk⟩
  have HC : Hid (fd es k = none) := hc
  clear h hk hc
  obtain ⟨k1, k2⟩ := k
  go_enter Try.func6, Try.ntmps6
  go_wp2_with fail
  have HB1 : Hid (Below w.heap.size w (w.alloc (.cells #[.int .i64 k1, .int .i64 k2] 28))) := (Below.refl _ _).alloc (Nat.le_refl _) _
  generalize w.alloc (.cells #[.int .i64 k1, .int .i64 k2] 28) = W1 at *
  refine (find_any W1 D M L P hf es (k1, k2) (HD.out.1.kept HB1.out) HD.out.2).mono ?_
  rintro e w2 ⟨rfl, hb2⟩
  have HB2 : Hid (Below w.heap.size w w2) := HB1.out.trans (hb2.mono HB1.out.size)
  clear hb2 HB1
  rw [HC.out]
  simp only [fp]
  go_wp2
  go_ret2
  exact ⟨rfl, HB2.out⟩
/-- what drop does, whichever neighbours there are -/
theorem drop_all {w W : World} {D M L P : Nat} {hf : Value} {A C : List En} {e : En} (h : DA w D M L hf P (A ++ e :: C))
    (hM : ∃ ms c, W.heap[M]? = some (.map ms c) ∧ ms.toList.map (fun x => (x.key, x.val)) = (A ++ C).map (fun e => (kv e.k, ptr e.b))) (hW : ∀ k, k ≠ M → W.heap[k]? = w.heap[k]?) (hlen : (A ++ e :: C).length ≤ 140737488355328) :
    Calls Try.prog 15 #[.pointer (some ⟨L, e.p * 3, none⟩), ptr e.b] W fun r w' => r = .returned (.tuple #[]) ∧ DA w' D M L hf P (A ++ C) ∧ w'.heap[e.b]? = W.heap[e.b]? ∧ w'.heap[D]? = W.heap[D]? ∧ Fr (Ft M L (A ++ e :: C)) W w' := by
  obtain ⟨Z, hZ, hZs, hZl⟩ := h.ln
  obtain ⟨ms0, c0, hM0, _⟩ := h.mp
  have mD : D ≠ M := fun e' => by have := h.dc; rw [e', hM0] at this; cases this
  have dL : D ≠ L := fun e' => by have := h.dc; rw [e', hZ] at this; cases this
  have mL : L ≠ M := fun e' => by have := hZ; rw [e', hM0] at this; cases this
  have mX : ∀ x ∈ A ++ e :: C, x.b ≠ M ∧ x.b ≠ L ∧ x.b ≠ D := fun x hx => by
    obtain ⟨u, v, hx'⟩ := h.entry hx
    exact ⟨fun e' => by (rw [e', hM0] at hx'; cases hx'), fun e' => by (rw [e', hZ] at hx'; cases hx'), fun e' => by (rw [e', h.dc] at hx'; cases hx')⟩
  have he : e ∈ A ++ e :: C := by simp
  have hL4 : W.heap[L]? = some (.cells Z TL (0, 0)) := (hW L mL).trans hZ
  have hE4 := (hW e.b (mX e he).1).trans (h.en A e C rfl)
  obtain ⟨l0, l1, l2⟩ := hZl e.p (h.pp e he).1
  rw [Nat.mul_comm] at l0 l1 l2
  have hpl : (pt e.p (A ++ e :: C)).length = (pt e.p (A ++ C)).length + 1 := by rw [pt_erase_same, pt_append]; simp; omega
  have hn : 1 ≤ (pt e.p (A ++ e :: C)).length ∧ (pt e.p (A ++ e :: C)).length ≤ 140737488355328 := by
    have h1 : (pt e.p (A ++ e :: C)).length ≤ (A ++ e :: C).length := List.length_filter_le _ _
    omega
  have hsz : (((pt e.p (A ++ e :: C)).length : Int) - 1) = ((pt e.p (A ++ C)).length : Int) := by omega
  have fL : Ft M L (A ++ e :: C) L := .inr (.inl rfl)
  obtain ⟨f0, hf0⟩ := hp_ptr (pt e.p (A ++ e :: C))
  obtain ⟨g0, hg0⟩ := lp_ptr (pt e.p (A ++ e :: C))
  rw [hf0] at l0
  rw [hg0] at l1
  have nodeC : ∀ {X Y : List En} {x : En}, A ++ e :: C = X ++ x :: Y → ∃ o1 o2, W.heap[x.b]? = some (.cells #[.int .i64 x.k.1, .int .i64 x.k.2, .int .i64 x.v, .int .i64 (x.p : Int), .pointer o1, .pointer o2] TE (0, 0)) := fun {X Y x} hx => by
    have h1 := (hW x.b (mX x (by rw [hx]; simp)).1).trans (h.en X x Y hx)
    obtain ⟨o1, ho1⟩ := lp_ptr (pt x.p X)
    obtain ⟨o2, ho2⟩ := hp_ptr (pt x.p Y)
    rw [ho1, ho2] at h1
    exact ⟨o1, o2, h1⟩
  by_cases hA : pt e.p A = []
  · by_cases hC : pt e.p C = []
    · rw [hA, hC] at hE4
      refine (drop_one W L (e.p * 3) e.b _ Z f0 g0 e.k.1 e.k.2 e.v (e.p : Int) hL4 l0 l1 l2 hn hE4 (mX e he).2.1).mono ?_
      rintro r w' ⟨rfl, rfl⟩
      refine ⟨rfl, DA.taken_one h hA hC hM hW 0 _ hsz, ?_, ?_, (((Fr.refl _ W).set _ _ (.inr fL)).set _ _ (.inr fL)).set _ _ (.inr fL)⟩
      · exact blk_oth _ (blk_oth _ (blk_oth _ rfl (mX e he).2.1) (mX e he).2.1) (mX e he).2.1
      · exact blk_oth _ (blk_oth _ (blk_oth _ rfl dL) dL) dL
    · obtain ⟨C1, c, C2, rfl, hcp, hC1⟩ := first_split hC
      have hsc : hp (pt e.p (C1 ++ c :: C2)) = ptr c.b := hp_first hcp hC1
      rw [hA, hsc] at hE4
      have hcm : c ∈ A ++ e :: (C1 ++ c :: C2) := by simp
      have nce : c.b ≠ e.b := (nodup_split h.bn).2 c (by simp)
      obtain ⟨o1, o2, hB⟩ := nodeC (X := A ++ e :: C1) (x := c) (Y := C2) (by simp)
      refine (drop_first W L (e.p * 3) e.b c.b _ Z f0 e.k.1 e.k.2 e.v (e.p : Int) hL4 l0 l2 hn hE4 (mX e he).2.1 _ _ _ _ o1 o2 hB (mX c hcm).2.1).mono ?_
      rintro r w' ⟨rfl, q, rfl⟩
      have hfr : Fr (Ft M L (A ++ e :: (C1 ++ c :: C2))) W _ := (((Fr.refl _ W).set ⟨L, e.p * 3, none⟩ (ptr c.b) (.inr fL)).set ⟨c.b, 4, none⟩ (.pointer none) (.inr (.inr (.inr ⟨c, hcm, rfl⟩)))).set ⟨L, e.p * 3 + 2, none⟩ (.int .i64 (((pt e.p (A ++ e :: (C1 ++ c :: C2))).length : Int) - 1)) (.inr fL)
      refine ⟨rfl, DA.taken_first h hA rfl hcp hC1 hM hW q _ hsz, ?_, ?_, ⟨hfr.os, hfr.tape, hfr.output, hfr.size, hfr.block⟩⟩
      · exact blk_oth _ (blk_oth _ (blk_oth _ rfl (mX e he).2.1) (Ne.symm nce)) (mX e he).2.1
      · exact blk_oth _ (blk_oth _ (blk_oth _ rfl dL) (Ne.symm (mX c hcm).2.2)) dL
  · obtain ⟨A0, a, A2, rfl, hap, hA2⟩ := last_split hA
    have hpa : lp (pt e.p (A0 ++ a :: A2)) = ptr a.b := lp_last hap hA2
    have ham : a ∈ (A0 ++ a :: A2) ++ e :: C := by simp
    have nae : a.b ≠ e.b := (nodup_split h.bn).1 a (by simp)
    obtain ⟨p1, p2, hAn⟩ := nodeC (X := A0) (x := a) (Y := A2 ++ e :: C) (by simp)
    by_cases hC : pt e.p C = []
    · rw [hpa, hC] at hE4
      refine (drop_last W L (e.p * 3) e.b a.b _ Z g0 e.k.1 e.k.2 e.v (e.p : Int) hL4 l1 l2 hn hE4 _ _ _ _ p1 p2 hAn (mX a ham).2.1 nae).mono ?_
      rintro r w' ⟨rfl, q, rfl⟩
      have hfr : Fr (Ft M L ((A0 ++ a :: A2) ++ e :: C)) W _ := (((Fr.refl _ W).set ⟨a.b, 5, none⟩ (.pointer none) (.inr (.inr (.inr ⟨a, ham, rfl⟩)))).set ⟨L, e.p * 3 + 1, none⟩ (ptr a.b) (.inr fL)).set ⟨L, e.p * 3 + 2, none⟩ (.int .i64 (((pt e.p ((A0 ++ a :: A2) ++ e :: C)).length : Int) - 1)) (.inr fL)
      refine ⟨rfl, DA.taken_last h rfl hap hA2 hC hM hW q _ hsz, ?_, ?_, ⟨hfr.os, hfr.tape, hfr.output, hfr.size, hfr.block⟩⟩
      · exact blk_oth _ (blk_oth _ (blk_oth _ rfl (Ne.symm nae)) (mX e he).2.1) (mX e he).2.1
      · exact blk_oth _ (blk_oth _ (blk_oth _ rfl (Ne.symm (mX a ham).2.2)) dL) dL
    · obtain ⟨C1, c, C2, rfl, hcp, hC1⟩ := first_split hC
      have hsc : hp (pt e.p (C1 ++ c :: C2)) = ptr c.b := hp_first hcp hC1
      rw [hpa, hsc] at hE4
      have hcm : c ∈ (A0 ++ a :: A2) ++ e :: (C1 ++ c :: C2) := by simp
      have nce : c.b ≠ e.b := (nodup_split h.bn).2 c (by simp)
      obtain ⟨o1, o2, hB⟩ := nodeC (X := (A0 ++ a :: A2) ++ e :: C1) (x := c) (Y := C2) (by simp)
      have nac : a.b ≠ c.b := by
        have hbn := h.bn
        rw [List.map_append, List.map_cons, List.nodup_append] at hbn
        exact hbn.2.2 _ (List.mem_map.2 ⟨a, by simp, rfl⟩) _ (by simp)
      refine (drop_mid W L (e.p * 3) e.b a.b c.b _ Z e.k.1 e.k.2 e.v (e.p : Int) hL4 l2 hn hE4 _ _ _ _ p1 p2 hAn (mX a ham).2.1 nae _ _ _ _ o1 o2 hB (mX c hcm).2.1 nac).mono ?_
      rintro r w' ⟨rfl, q, rfl⟩
      have hfr : Fr (Ft M L ((A0 ++ a :: A2) ++ e :: (C1 ++ c :: C2))) W _ := (((Fr.refl _ W).set ⟨a.b, 5, none⟩ (ptr c.b) (.inr (.inr (.inr ⟨a, ham, rfl⟩)))).set ⟨c.b, 4, none⟩ (ptr a.b) (.inr (.inr (.inr ⟨c, hcm, rfl⟩)))).set ⟨L, e.p * 3 + 2, none⟩ (.int .i64 (((pt e.p ((A0 ++ a :: A2) ++ e :: (C1 ++ c :: C2))).length : Int) - 1)) (.inr fL)
      refine ⟨rfl, DA.taken_mid h rfl hap hA2 rfl hcp hC1 hM hW q _ hsz, ?_, ?_, ⟨hfr.os, hfr.tape, hfr.output, hfr.size, hfr.block⟩⟩
      · exact blk_oth _ (blk_oth _ (blk_oth _ rfl (Ne.symm nae)) (Ne.symm nce)) (mX e he).2.1
      · exact blk_oth _ (blk_oth _ (blk_oth _ rfl (Ne.symm (mX a ham).2.2)) (Ne.symm (mX c hcm).2.2)) dL

set_option maxRecDepth 100000 in
set_option maxHeartbeats 1000000 in
theorem take_some (w : World) (D M L P : Nat) (hf : Value) (es : List En) (k : K) (h : DA w D M L hf P es) (hk : KIn k) (e0 : En) (hc : fd es k = some e0) (hlen : es.length ≤ 140737488355328) :
    Calls Try.prog 6 #[ptr D, kv k] w fun e w' => e = .returned (.tuple #[.int .i64 e0.v, .bool true]) ∧ (∃ A C, es = A ++ e0 :: C ∧ DA w' D M L hf P (A ++ C)) ∧ Fr (Ft M L es) w w' := by
  have HD : Hid (DA w D M L hf P es ∧ KIn k) := ⟨h, hk⟩
  have HC : Hid (fd es k = some e0) := hc
  have HLn : Hid (es.length ≤ 140737488355328) := hlen
  clear h hk hc hlen
  obtain ⟨k1, k2⟩ := k
  go_enter Try.func6, Try.ntmps6
  go_wp2_with fail
  have HB1 : Hid (Below w.heap.size w (w.alloc (.cells #[.int .i64 k1, .int .i64 k2] 28))) := (Below.refl _ _).alloc (Nat.le_refl _) _
  have HX1 : Hid ((w.alloc (.cells #[.int .i64 k1, .int .i64 k2] 28)).heap[w.heap.size]? = some (.cells #[.int .i64 k1, .int .i64 k2] 28 (0, 0))) := heap_alloc_new _ _ rfl
  generalize w.alloc (.cells #[.int .i64 k1, .int .i64 k2] 28) = W1 at *
  refine (find_any W1 D M L P hf es (k1, k2) (HD.out.1.kept HB1.out) HD.out.2).mono ?_
  rintro e w2 ⟨rfl, hb2⟩
  have HB2 : Hid (Below w.heap.size w w2) := HB1.out.trans (hb2.mono HB1.out.size)
  have HX2 : Hid (w2.heap[w.heap.size]? = some (.cells #[.int .i64 k1, .int .i64 k2] 28 (0, 0))) := (hb2.block _ (blk_lt HX1.out)).trans HX1.out
  have HD2 : Hid (DA w2 D M L hf P es) := HD.out.1.kept HB2.out
  clear hb2 HB1 HX1
  rw [HC.out]
  simp only [fp]
  obtain ⟨he0, hek⟩ := fd_some HC.out
  obtain ⟨_, c1, _⟩ := HD2.out.cells
  have b0 : w2.cell? ⟨w.heap.size, 0, none⟩ = some (.int .i64 k1) := by rw [World.cell?, HX2.out]; rfl
  have b1 : w2.cell? ⟨w.heap.size, 1, none⟩ = some (.int .i64 k2) := by rw [World.cell?, HX2.out]; rfl
  obtain ⟨ms, clock, hm1, hm2⟩ := HD2.out.mp
  obtain ⟨A, C, ms', hes, hdl, hml⟩ := map_del (w := w2.drew) hm1 (fun e he => (HD2.out.pp e he).2.1) hm2 HD2.out.kn he0 0
  rw [hek] at hdl
  have HM4 : Hid (∃ ms c, (ChangeMaps.setBlock w2.drew M (.map ms' clock)).heap[M]? = some (.map ms c) ∧ ms.toList.map (fun x => (x.key, x.val)) = (A ++ C).map (fun e => (kv e.k, ptr e.b))) := ⟨_, _, ChangeMaps.heap_setBlock_same (w := w2.drew) hm1 _, hml⟩
  have HO4 : Hid (∀ k, k ≠ M → (ChangeMaps.setBlock w2.drew M (.map ms' clock)).heap[k]? = w2.heap[k]?) := fun k hk => ChangeMaps.heap_setBlock_other (w := w2.drew) hm1 _ hk
  have HF4 : Hid (Fr (Ft M L es) w (ChangeMaps.setBlock w2.drew M (.map ms' clock))) := by
    have h1 := HB2.out
    have h2 : (ChangeMaps.setBlock w2.drew M (.map ms' clock)).heap.size = w2.heap.size := by simp [ChangeMaps.setBlock]
    exact ⟨h1.os, h1.tape, h1.output, by rw [h2]; exact h1.size, fun k hk hS => (HO4.out k (fun e' => hS (.inl e'))).trans (h1.block k hk)⟩
  go_wp2_with fail
  go_region
  generalize ChangeMaps.setBlock w2.drew M (.map ms' clock) = W4 at *
  have HMn : Hid (D ≠ M ∧ e0.b ≠ M) := by
    obtain ⟨_, _, h1, _⟩ := HD2.out.mp
    obtain ⟨_, _, h2⟩ := HD2.out.entry he0
    exact ⟨fun e' => by (have h3 := HD2.out.dc; rw [e', h1] at h3; cases h3), fun e' => by (rw [e', h1] at h2; cases h2)⟩
  have hD4 : W4.heap[D]? = _ := (HO4.out D HMn.out.1).trans HD2.out.dc
  have d2 : W4.cell? ⟨D, 2, none⟩ = some (.slice (some ⟨L, 0, none⟩) P P) := by rw [World.cell?, hD4]; rfl
  obtain ⟨ex, ey, hE2⟩ := HD2.out.entry he0
  have hE4 : W4.heap[e0.b]? = _ := (HO4.out e0.b HMn.out.2).trans hE2
  have e3 : W4.cell? ⟨e0.b, 3, none⟩ = some (.int .i64 (e0.p : Int)) := by rw [World.cell?, hE4]; rfl
  have hpi : (e0.p : Int) < (P : Int) := by have := (HD2.out.pp e0 he0).1; omega
  have HDr : Hid (∀ n : Nat, Calls Try.prog 15 #[.pointer (some ⟨L, e0.p * 3, none⟩), ptr e0.b] (W4.drewN n) fun r w' => r = .returned (.tuple #[]) ∧ (∃ A C, es = A ++ e0 :: C ∧ DA w' D M L hf P (A ++ C)) ∧ w'.cell? ⟨D, 2, none⟩ = some (.slice (some ⟨L, 0, none⟩) P P) ∧ w'.cell? ⟨e0.b, 3, none⟩ = some (.int .i64 (e0.p : Int)) ∧ w'.cell? ⟨e0.b, 2, none⟩ = some (.int .i64 e0.v) ∧ Fr (Ft M L es) w w') := fun n => by
    have hd := HD2.out
    have hl := HLn.out
    rw [hes] at hd hl
    refine (drop_all (W := W4.drewN n) hd HM4.out HO4.out hl).mono ?_
    rintro r w' ⟨rfl, h1, h2, h3, h4⟩
    refine ⟨rfl, ⟨A, C, hes, h1⟩, by rw [World.cell?, h3.trans hD4]; rfl, by rw [World.cell?, h2.trans hE4]; rfl, by rw [World.cell?, h2.trans hE4]; rfl, ?_⟩
    rw [← hes] at h4
    have hF4 : Fr (Ft M L es) w (W4.drewN n) := ⟨HF4.out.os, HF4.out.tape, HF4.out.output, HF4.out.size, HF4.out.block⟩
    exact hF4.trans h4 (fun _ _ h => h)
  clear b0 b1 c1 hdl hm1 hm2 hml hek hD4 hE2 hE4
  go_upto_region 4 with fail
  go_region_held3 (fun w' => w'.cell? ⟨D, 2, none⟩ = some (.slice (some ⟨L, 0, none⟩) P P) ∧ w'.cell? ⟨e0.b, 3, none⟩ = some (.int .i64 (e0.p : Int))) (first | exact ⟨q2, q3⟩ | go_keep) (first | (go_at_call 15; refine (HDr.out 1).mono ?_; rintro e wq ⟨rfl, hq1, q2, q3, q4, hq5⟩; have HQ : Hid ((∃ A C, es = A ++ e0 :: C ∧ DA wq D M L hf P (A ++ C)) ∧ Fr (Ft M L es) w wq) := ⟨hq1, hq5⟩; clear hq1 hq5))
  go_wp2
  go_ret2
  exact ⟨rfl, HQ.out.1, HQ.out.2⟩
end Go.Proofs.Ytenmkigoohpfmaa
