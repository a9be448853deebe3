import Derived.Test.YtbcmmeajglilbaaGreatKCPut1
/-
  Take.
-/
namespace Go.Proofs.YtbcmmeajglilbaaGreat
open Go.RowKit Go.Sort

set_option maxRecDepth 100000 in
set_option maxHeartbeats 1000000 in
theorem take_none (w : World) (D M L P : Nat) (hf : Value) (es : List En) (k : K) (h : DA w D M L hf P es) (hk : KIn k) (hc : fd es k = none) :
    Calls Tryz.prog 55 #[ptr D, kv k] w fun e w' => e = .returned (.tuple #[.pointer none, .bool false]) ∧ Below w.heap.size w w' := by
  have HD : Hid (DA w D M L hf P es ∧ KIn k) := ⟨h, hk⟩
  have HC : Hid (fd es k = none) := hc
  clear h hk hc
  obtain ⟨k1, k2⟩ := k
  go_enter Tryz.func55, Tryz.ntmps55
  go_wp2_with fail
  have HB1 : Hid (Below w.heap.size w (w.alloc (.cells #[.int .i64 k1, .int .i64 k2] 41))) := (Below.refl _ _).alloc (Nat.le_refl _) _
  generalize w.alloc (.cells #[.int .i64 k1, .int .i64 k2] 41) = W1 at *
  refine (find_any W1 D M L P hf es (k1, k2) (HD.out.1.kept HB1.out) HD.out.2).mono ?_
  rintro e w2 ⟨rfl, hb2⟩
  have HB2 : Hid (Below w.heap.size w w2) := HB1.out.trans (hb2.mono HB1.out.size)
  clear hb2 HB1
  rw [HC.out]
  simp only [fp]
  go_wp2
  go_ret2
  exact ⟨rfl, HB2.out⟩
/-- what drop does, whichever neighbours there are -/
theorem drop_all {w W : World} {D M L P : Nat} {hf : Value} {A C : List En} {e : En} (h : DA w D M L hf P (A ++ e :: C))
    (hM : ∃ ms c, W.heap[M]? = some (.map ms c) ∧ ms.toList.map (fun x => (x.key, x.val)) = (A ++ C).map (fun e => (kv e.k, ptr e.b))) (hW : ∀ k, k ≠ M → W.heap[k]? = w.heap[k]?) (hlen : (A ++ e :: C).length ≤ 140737488355328) :
    Calls Tryz.prog 75 #[.pointer (some ⟨L, e.p * 3, none⟩), ptr e.b] W fun r w' => r = .returned (.tuple #[]) ∧ DA w' D M L hf P (A ++ C) ∧ w'.heap[e.b]? = W.heap[e.b]? ∧ w'.heap[D]? = W.heap[D]? ∧ Fr (Ft M L (A ++ e :: C)) W w' := by
  obtain ⟨Z, hZ, hZs, hZl⟩ := h.ln
  obtain ⟨ms0, c0, hM0, _⟩ := h.mp
  have mD : D ≠ M := fun e' => by have := h.dc; rw [e', hM0] at this; cases this
  have dL : D ≠ L := fun e' => by have := h.dc; rw [e', hZ] at this; cases this
  have mL : L ≠ M := fun e' => by have := hZ; rw [e', hM0] at this; cases this
  have mX : ∀ x ∈ A ++ e :: C, x.b ≠ M ∧ x.b ≠ L ∧ x.b ≠ D := fun x hx => by
    obtain ⟨u, v, hx'⟩ := h.entry hx
    exact ⟨fun e' => by (rw [e', hM0] at hx'; cases hx'), fun e' => by (rw [e', hZ] at hx'; cases hx'), fun e' => by (rw [e', h.dc] at hx'; cases hx')⟩
  have he : e ∈ A ++ e :: C := by simp
  have hL4 : W.heap[L]? = some (.cells Z TL (0, 0)) := (hW L mL).trans hZ
  have hE4 := (hW e.b (mX e he).1).trans (h.en A e C rfl)
  obtain ⟨l0, l1, l2⟩ := hZl e.p (h.pp e he).1
  rw [Nat.mul_comm] at l0 l1 l2
  have hpl : (pt e.p (A ++ e :: C)).length = (pt e.p (A ++ C)).length + 1 := by rw [pt_erase_same, pt_append]; simp; omega
  have hn : 1 ≤ (pt e.p (A ++ e :: C)).length ∧ (pt e.p (A ++ e :: C)).length ≤ 140737488355328 := by
    have h1 : (pt e.p (A ++ e :: C)).length ≤ (A ++ e :: C).length := List.length_filter_le _ _
    omega
  have hsz : (((pt e.p (A ++ e :: C)).length : Int) - 1) = ((pt e.p (A ++ C)).length : Int) := by omega
  have fL : Ft M L (A ++ e :: C) L := .inr (.inl rfl)
  obtain ⟨f0, hf0⟩ := hp_ptr (pt e.p (A ++ e :: C))
  obtain ⟨g0, hg0⟩ := lp_ptr (pt e.p (A ++ e :: C))
  rw [hf0] at l0
  rw [hg0] at l1
  have nodeC : ∀ {X Y : List En} {x : En}, A ++ e :: C = X ++ x :: Y → ∃ o1 o2, W.heap[x.b]? = some (.cells #[.int .i64 x.k.1, .int .i64 x.k.2, ptr x.v, .int .i64 (x.p : Int), .pointer o1, .pointer o2] TE (0, 0)) := fun {X Y x} hx => by
    have h1 := (hW x.b (mX x (by rw [hx]; simp)).1).trans (h.en X x Y hx)
    obtain ⟨o1, ho1⟩ := lp_ptr (pt x.p X)
    obtain ⟨o2, ho2⟩ := hp_ptr (pt x.p Y)
    rw [ho1, ho2] at h1
    exact ⟨o1, o2, h1⟩
  by_cases hA : pt e.p A = []
  · by_cases hC : pt e.p C = []
    · rw [hA, hC] at hE4
      refine (drop_one W L (e.p * 3) e.b _ Z f0 g0 e.k.1 e.k.2 e.v (e.p : Int) hL4 l0 l1 l2 hn hE4 (mX e he).2.1).mono ?_
      rintro r w' ⟨rfl, rfl⟩
      refine ⟨rfl, DA.taken_one h hA hC hM hW 0 _ hsz, ?_, ?_, (((Fr.refl _ W).set _ _ (.inr fL)).set _ _ (.inr fL)).set _ _ (.inr fL)⟩
      · exact blk_oth _ (blk_oth _ (blk_oth _ rfl (mX e he).2.1) (mX e he).2.1) (mX e he).2.1
      · exact blk_oth _ (blk_oth _ (blk_oth _ rfl dL) dL) dL
    · obtain ⟨C1, c, C2, rfl, hcp, hC1⟩ := first_split hC
      have hsc : hp (pt e.p (C1 ++ c :: C2)) = ptr c.b := hp_first hcp hC1
      rw [hA, hsc] at hE4
      have hcm : c ∈ A ++ e :: (C1 ++ c :: C2) := by simp
      have nce : c.b ≠ e.b := (nodup_split h.bn).2 c (by simp)
      obtain ⟨o1, o2, hB⟩ := nodeC (X := A ++ e :: C1) (x := c) (Y := C2) (by simp)
      refine (drop_first W L (e.p * 3) e.b c.b _ Z f0 e.k.1 e.k.2 e.v (e.p : Int) hL4 l0 l2 hn hE4 (mX e he).2.1 _ _ _ _ o1 o2 hB (mX c hcm).2.1).mono ?_
      rintro r w' ⟨rfl, q, rfl⟩
      have hfr : Fr (Ft M L (A ++ e :: (C1 ++ c :: C2))) W _ := (((Fr.refl _ W).set ⟨L, e.p * 3, none⟩ (ptr c.b) (.inr fL)).set ⟨c.b, 4, none⟩ (.pointer none) (.inr (.inr (.inr ⟨c, hcm, rfl⟩)))).set ⟨L, e.p * 3 + 2, none⟩ (.int .i64 (((pt e.p (A ++ e :: (C1 ++ c :: C2))).length : Int) - 1)) (.inr fL)
      refine ⟨rfl, DA.taken_first h hA rfl hcp hC1 hM hW q _ hsz, ?_, ?_, ⟨hfr.os, hfr.tape, hfr.output, hfr.size, hfr.block⟩⟩
      · exact blk_oth _ (blk_oth _ (blk_oth _ rfl (mX e he).2.1) (Ne.symm nce)) (mX e he).2.1
      · exact blk_oth _ (blk_oth _ (blk_oth _ rfl dL) (Ne.symm (mX c hcm).2.2)) dL
  · obtain ⟨A0, a, A2, rfl, hap, hA2⟩ := last_split hA
    have hpa : lp (pt e.p (A0 ++ a :: A2)) = ptr a.b := lp_last hap hA2
    have ham : a ∈ (A0 ++ a :: A2) ++ e :: C := by simp
    have nae : a.b ≠ e.b := (nodup_split h.bn).1 a (by simp)
    obtain ⟨p1, p2, hAn⟩ := nodeC (X := A0) (x := a) (Y := A2 ++ e :: C) (by simp)
    by_cases hC : pt e.p C = []
    · rw [hpa, hC] at hE4
      refine (drop_last W L (e.p * 3) e.b a.b _ Z g0 e.k.1 e.k.2 e.v (e.p : Int) hL4 l1 l2 hn hE4 _ _ _ _ p1 p2 hAn (mX a ham).2.1 nae).mono ?_
      rintro r w' ⟨rfl, q, rfl⟩
      have hfr : Fr (Ft M L ((A0 ++ a :: A2) ++ e :: C)) W _ := (((Fr.refl _ W).set ⟨a.b, 5, none⟩ (.pointer none) (.inr (.inr (.inr ⟨a, ham, rfl⟩)))).set ⟨L, e.p * 3 + 1, none⟩ (ptr a.b) (.inr fL)).set ⟨L, e.p * 3 + 2, none⟩ (.int .i64 (((pt e.p ((A0 ++ a :: A2) ++ e :: C)).length : Int) - 1)) (.inr fL)
      refine ⟨rfl, DA.taken_last h rfl hap hA2 hC hM hW q _ hsz, ?_, ?_, ⟨hfr.os, hfr.tape, hfr.output, hfr.size, hfr.block⟩⟩
      · exact blk_oth _ (blk_oth _ (blk_oth _ rfl (Ne.symm nae)) (mX e he).2.1) (mX e he).2.1
      · exact blk_oth _ (blk_oth _ (blk_oth _ rfl (Ne.symm (mX a ham).2.2)) dL) dL
    · obtain ⟨C1, c, C2, rfl, hcp, hC1⟩ := first_split hC
      have hsc : hp (pt e.p (C1 ++ c :: C2)) = ptr c.b := hp_first hcp hC1
      rw [hpa, hsc] at hE4
      have hcm : c ∈ (A0 ++ a :: A2) ++ e :: (C1 ++ c :: C2) := by simp
      have nce : c.b ≠ e.b := (nodup_split h.bn).2 c (by simp)
      obtain ⟨o1, o2, hB⟩ := nodeC (X := (A0 ++ a :: A2) ++ e :: C1) (x := c) (Y := C2) (by simp)
      have nac : a.b ≠ c.b := by
        have hbn := h.bn
        rw [List.map_append, List.map_cons, List.nodup_append] at hbn
        exact hbn.2.2 _ (List.mem_map.2 ⟨a, by simp, rfl⟩) _ (by simp)
      refine (drop_mid W L (e.p * 3) e.b a.b c.b _ Z e.k.1 e.k.2 e.v (e.p : Int) hL4 l2 hn hE4 _ _ _ _ p1 p2 hAn (mX a ham).2.1 nae _ _ _ _ o1 o2 hB (mX c hcm).2.1 nac).mono ?_
      rintro r w' ⟨rfl, q, rfl⟩
      have hfr : Fr (Ft M L ((A0 ++ a :: A2) ++ e :: (C1 ++ c :: C2))) W _ := (((Fr.refl _ W).set ⟨a.b, 5, none⟩ (ptr c.b) (.inr (.inr (.inr ⟨a, ham, rfl⟩)))).set ⟨c.b, 4, none⟩ (ptr a.b) (.inr (.inr (.inr ⟨c, hcm, rfl⟩)))).set ⟨L, e.p * 3 + 2, none⟩ (.int .i64 (((pt e.p ((A0 ++ a :: A2) ++ e :: (C1 ++ c :: C2))).length : Int) - 1)) (.inr fL)
      refine ⟨rfl, DA.taken_mid h rfl hap hA2 rfl hcp hC1 hM hW q _ hsz, ?_, ?_, ⟨hfr.os, hfr.tape, hfr.output, hfr.size, hfr.block⟩⟩
      · exact blk_oth _ (blk_oth _ (blk_oth _ rfl (Ne.symm nae)) (Ne.symm nce)) (mX e he).2.1
      · exact blk_oth _ (blk_oth _ (blk_oth _ rfl (Ne.symm (mX a ham).2.2)) (Ne.symm (mX c hcm).2.2)) dL

set_option maxRecDepth 100000 in
set_option maxHeartbeats 1000000 in
theorem take_some (w : World) (D M L P : Nat) (hf : Value) (es : List En) (k : K) (h : DA w D M L hf P es) (hk : KIn k) (e0 : En) (hc : fd es k = some e0) (hlen : es.length ≤ 140737488355328) :
    Calls Tryz.prog 55 #[ptr D, kv k] w fun e w' => e = .returned (.tuple #[ptr e0.v, .bool true]) ∧ (∃ A C, es = A ++ e0 :: C ∧ DA w' D M L hf P (A ++ C)) ∧ Fr (Ft M L es) w w' := by
  have HD : Hid (DA w D M L hf P es ∧ KIn k) := ⟨h, hk⟩
  have HC : Hid (fd es k = some e0) := hc
  have HLn : Hid (es.length ≤ 140737488355328) := hlen
  clear h hk hc hlen
  obtain ⟨k1, k2⟩ := k
  go_enter Tryz.func55, Tryz.ntmps55
  go_wp2_with fail
  have HB1 : Hid (Below w.heap.size w (w.alloc (.cells #[.int .i64 k1, .int .i64 k2] 41))) := (Below.refl _ _).alloc (Nat.le_refl _) _
  have HX1 : Hid ((w.alloc (.cells #[.int .i64 k1, .int .i64 k2] 41)).heap[w.heap.size]? = some (.cells #[.int .i64 k1, .int .i64 k2] 41 (0, 0))) := heap_alloc_new _ _ rfl
  generalize w.alloc (.cells #[.int .i64 k1, .int .i64 k2] 41) = W1 at *
  refine (find_any W1 D M L P hf es (k1, k2) (HD.out.1.kept HB1.out) HD.out.2).mono ?_
  rintro e w2 ⟨rfl, hb2⟩
  have HB2 : Hid (Below w.heap.size w w2) := HB1.out.trans (hb2.mono HB1.out.size)
  have HX2 : Hid (w2.heap[w.heap.size]? = some (.cells #[.int .i64 k1, .int .i64 k2] 41 (0, 0))) := (hb2.block _ (blk_lt HX1.out)).trans HX1.out
  have HD2 : Hid (DA w2 D M L hf P es) := HD.out.1.kept HB2.out
  clear hb2 HB1 HX1
  rw [HC.out]
  simp only [fp]
  obtain ⟨he0, hek⟩ := fd_some HC.out
  obtain ⟨_, c1, _⟩ := HD2.out.cells
  have b0 : w2.cell? ⟨w.heap.size, 0, none⟩ = some (.int .i64 k1) := by rw [World.cell?, HX2.out]; rfl
  have b1 : w2.cell? ⟨w.heap.size, 1, none⟩ = some (.int .i64 k2) := by rw [World.cell?, HX2.out]; rfl
  obtain ⟨ms, clock, hm1, hm2⟩ := HD2.out.mp
  obtain ⟨A, C, ms', hes, hdl, hml⟩ := map_del (w := w2.drew) hm1 (fun e he => (HD2.out.pp e he).2.1) hm2 HD2.out.kn he0 0
  rw [hek] at hdl
  have HM4 : Hid (∃ ms c, (ChangeMaps.setBlock w2.drew M (.map ms' clock)).heap[M]? = some (.map ms c) ∧ ms.toList.map (fun x => (x.key, x.val)) = (A ++ C).map (fun e => (kv e.k, ptr e.b))) := ⟨_, _, ChangeMaps.heap_setBlock_same (w := w2.drew) hm1 _, hml⟩
  have HO4 : Hid (∀ k, k ≠ M → (ChangeMaps.setBlock w2.drew M (.map ms' clock)).heap[k]? = w2.heap[k]?) := fun k hk => ChangeMaps.heap_setBlock_other (w := w2.drew) hm1 _ hk
  have HF4 : Hid (Fr (Ft M L es) w (ChangeMaps.setBlock w2.drew M (.map ms' clock))) := by
    have h1 := HB2.out
    have h2 : (ChangeMaps.setBlock w2.drew M (.map ms' clock)).heap.size = w2.heap.size := by simp [ChangeMaps.setBlock]
    exact ⟨h1.os, h1.tape, h1.output, by rw [h2]; exact h1.size, fun k hk hS => (HO4.out k (fun e' => hS (.inl e'))).trans (h1.block k hk)⟩
  go_wp2_with fail
  go_region
  generalize ChangeMaps.setBlock w2.drew M (.map ms' clock) = W4 at *
  have HMn : Hid (D ≠ M ∧ e0.b ≠ M) := by
    obtain ⟨_, _, h1, _⟩ := HD2.out.mp
    obtain ⟨_, _, h2⟩ := HD2.out.entry he0
    exact ⟨fun e' => by (have h3 := HD2.out.dc; rw [e', h1] at h3; cases h3), fun e' => by (rw [e', h1] at h2; cases h2)⟩
  have hD4 : W4.heap[D]? = _ := (HO4.out D HMn.out.1).trans HD2.out.dc
  have d2 : W4.cell? ⟨D, 2, none⟩ = some (.slice (some ⟨L, 0, none⟩) P P) := by rw [World.cell?, hD4]; rfl
  obtain ⟨ex, ey, hE2⟩ := HD2.out.entry he0
  have hE4 : W4.heap[e0.b]? = _ := (HO4.out e0.b HMn.out.2).trans hE2
  have e3 : W4.cell? ⟨e0.b, 3, none⟩ = some (.int .i64 (e0.p : Int)) := by rw [World.cell?, hE4]; rfl
  have hpi : (e0.p : Int) < (P : Int) := by have := (HD2.out.pp e0 he0).1; omega
  have HDr : Hid (∀ n : Nat, Calls Tryz.prog 75 #[.pointer (some ⟨L, e0.p * 3, none⟩), ptr e0.b] (W4.drewN n) fun r w' => r = .returned (.tuple #[]) ∧ (∃ A C, es = A ++ e0 :: C ∧ DA w' D M L hf P (A ++ C)) ∧ w'.cell? ⟨D, 2, none⟩ = some (.slice (some ⟨L, 0, none⟩) P P) ∧ w'.cell? ⟨e0.b, 3, none⟩ = some (.int .i64 (e0.p : Int)) ∧ w'.cell? ⟨e0.b, 2, none⟩ = some (ptr e0.v) ∧ Fr (Ft M L es) w w') := fun n => by
    have hd := HD2.out
    have hl := HLn.out
    rw [hes] at hd hl
    refine (drop_all (W := W4.drewN n) hd HM4.out HO4.out hl).mono ?_
    rintro r w' ⟨rfl, h1, h2, h3, h4⟩
    refine ⟨rfl, ⟨A, C, hes, h1⟩, by rw [World.cell?, h3.trans hD4]; rfl, by rw [World.cell?, h2.trans hE4]; rfl, by rw [World.cell?, h2.trans hE4]; rfl, ?_⟩
    rw [← hes] at h4
    have hF4 : Fr (Ft M L es) w (W4.drewN n) := ⟨HF4.out.os, HF4.out.tape, HF4.out.output, HF4.out.size, HF4.out.block⟩
    exact hF4.trans h4 (fun _ _ h => h)
  clear b0 b1 c1 hdl hm1 hm2 hml hek hD4 hE2 hE4
  go_upto_region 4 with fail
  go_region_held3 (fun w' => w'.cell? ⟨D, 2, none⟩ = some (.slice (some ⟨L, 0, none⟩) P P) ∧ w'.cell? ⟨e0.b, 3, none⟩ = some (.int .i64 (e0.p : Int))) (first | exact ⟨q2, q3⟩ | go_keep) (first | (go_at_call 75; refine (HDr.out 1).mono ?_; rintro e wq ⟨rfl, hq1, q2, q3, q4, hq5⟩; have HQ : Hid ((∃ A C, es = A ++ e0 :: C ∧ DA wq D M L hf P (A ++ C)) ∧ Fr (Ft M L es) w wq) := ⟨hq1, hq5⟩; clear hq1 hq5))
  go_wp2
  go_ret2
  exact ⟨rfl, HQ.out.1, HQ.out.2⟩
end Go.Proofs.YtbcmmeajglilbaaGreat
/-
  THE STORE's VERSIONS, BY NUMBER.
-/
namespace Go.Proofs.YtbcmmeajglilbaaGreat
open Go.RowKit Go.Sort

/-- a version: its block, its number, its key, its place, whether it is filled, its cell -/
structure Vr where
  b : Nat
  n : Int
  k : K
  ba : Int
  ix : Int
  fl : Bool
  ci : Bool
  cv : Int
def cellsV (v : Vr) : Array Value := #[.int .i64 v.ba, .int .i64 v.ix, .int .i64 v.n, .int .i64 v.k.1, .int .i64 v.k.2, .bool v.fl, .bool v.ci, .int .i64 v.cv]
theorem keyedI : Maps.Keyed Tryz.prog 3 := Maps.int_keyed Tryz.underlying3
theorem int_lit {n : Int} (h : In64 n) : ∃ l, keyOf Tryz.prog 3 (.int .i64 n) = some l := ⟨_, Maps.keyOf_int_mk Tryz.underlying3 (WalkArith.wf_i64 h)⟩
/-- what is found -/
def fv (vs : List Vr) (k : Int) : Option Vr := vs.find? (fun e => decide (e.n = k))
def pf : Option Vr → Value
  | none => .pointer none
  | some e => ptr e.b
theorem fv_none {vs : List Vr} {k : Int} (h : fv vs k = none) : ∀ e ∈ vs, e.n ≠ k := by
  intro e he
  have := List.find?_eq_none.1 h e he
  simpa using this
theorem fv_some {vs : List Vr} {k : Int} {e : Vr} (h : fv vs k = some e) : e ∈ vs ∧ e.n = k := ⟨List.mem_of_find?_eq_some h, by have := List.find?_some h; simpa using this⟩
theorem fv_of {vs : List Vr} {e : Vr} (hk : (vs.map Vr.n).Nodup) (he : e ∈ vs) : fv vs e.n = some e := by
  obtain ⟨A, C, rfl⟩ := List.append_of_mem he
  have h := (nodup_split hk).1
  unfold fv
  rw [List.find?_append, List.find?_eq_none.2 (fun x hx => by simpa using h x hx)]
  simp
section
variable {w : World} {M : Nat} {vs : List Vr} {ms : Array MapEntry} {clock : Nat}
theorem vm_find (hp : ∀ e ∈ vs, In64 e.n) (hms : ms.toList.map (fun x => (x.key, x.val)) = vs.map (fun e => (.int .i64 e.n, ptr e.b))) (hk : (vs.map Vr.n).Nodup) {k : Int} (hkk : In64 k) (w : World) :
    (fv vs k = none ∧ (Instr.findKey 3 (.int .i64 k) ms.toList).run Tryz.prog w = .ok none w) ∨ (∃ j A e C, vs = A ++ e :: C ∧ A.length = j ∧ e.n = k ∧ fv vs k = some e ∧ (Instr.findKey 3 (.int .i64 k) ms.toList).run Tryz.prog w = .ok (some (j, ptr e.b)) w) := by
  obtain ⟨l, hl⟩ := int_lit hkk
  have hall : ∀ x ∈ ms.toList, ∃ l, keyOf Tryz.prog 3 x.key = some l := fun x hx => by
    have h1 : (x.key, x.val) ∈ vs.map (fun e => (.int .i64 e.n, ptr e.b)) := by rw [← hms]; exact List.mem_map.2 ⟨x, hx, rfl⟩
    obtain ⟨e, he, h2⟩ := List.mem_map.1 h1
    obtain ⟨l, h3⟩ := int_lit (hp e he)
    exact ⟨l, by rw [← (Prod.mk.inj h2).1]; exact h3⟩
  rcases keyedI.find w hl ms.toList hall with ⟨h1, h2⟩ | ⟨j, x, h1, h2, h3⟩
  · refine .inl ⟨?_, h1⟩
    refine List.find?_eq_none.2 fun e he => ?_
    have h4 : (.int .i64 e.n, ptr e.b) ∈ ms.toList.map (fun x => (x.key, x.val)) := by rw [hms]; exact List.mem_map.2 ⟨e, he, rfl⟩
    obtain ⟨x, hx, h5⟩ := List.mem_map.1 h4
    have h6 := h2 x hx
    simp only [decide_eq_true_eq]
    intro e'
    exact h6 (by rw [(Prod.mk.inj h5).1, e'])
  · have h4 : (ms.toList.map (fun x => (x.key, x.val)))[j]? = some (x.key, x.val) := by rw [List.getElem?_map, h2]; rfl
    rw [hms, List.getElem?_map] at h4
    obtain ⟨e, he, h5⟩ := Option.map_eq_some_iff.1 h4
    obtain ⟨h6, h7⟩ := Prod.mk.inj h5
    have hek : e.n = k := by have := h6.trans h3; injection this
    obtain ⟨hj, hje⟩ := List.getElem?_eq_some_iff.1 he
    refine .inr ⟨j, vs.take j, e, vs.drop (j + 1), ?_, by rw [List.length_take]; omega, hek, ?_, ?_⟩
    · rw [← hje, ← List.drop_eq_getElem_cons hj, List.take_append_drop]
    · rw [← hek]; exact fv_of hk (List.mem_of_getElem? he)
    · rw [h1, h7]
theorem run_zeroV (w : World) : (zeroValue 98).run Tryz.prog w = .ok (.pointer none) w := by kernel_rfl
theorem vm_look (hb : w.heap[M]? = some (.map ms clock)) (hp : ∀ e ∈ vs, In64 e.n) (hms : ms.toList.map (fun x => (x.key, x.val)) = vs.map (fun e => (.int .i64 e.n, ptr e.b))) (hk : (vs.map Vr.n).Nodup) {k : Int} (hkk : In64 k) :
    (Instr.lookup 59 (.map (some M)) (.int .i64 k) false).run Tryz.prog w = .ok (pf (fv vs k)) w := by
  obtain ⟨l, hl⟩ := int_lit hkk
  rcases vm_find hp hms hk hkk w with ⟨h1, h2⟩ | ⟨j, A, e, C, _, _, _, h1, h2⟩
  · rw [h1]
    simp [Instr.lookup, run_underlying Tryz.underlying59, MapKept.run_getObj_map hb, keyedI.check w _ hl, h2, Result.andThen, pf]
  · rw [h1]
    simp [Instr.lookup, run_underlying Tryz.underlying59, MapKept.run_getObj_map hb, keyedI.check w _ hl, h2, Result.andThen, pf]
theorem vm_put (hb : w.heap[M]? = some (.map ms clock)) (hp : ∀ e ∈ vs, In64 e.n) (hms : ms.toList.map (fun x => (x.key, x.val)) = vs.map (fun e => (.int .i64 e.n, ptr e.b))) (hk : (vs.map Vr.n).Nodup) {k : Int} (hkk : In64 k) (hn : fv vs k = none) (b : Nat) :
    (Instr.mapUpdate 59 (.map (some M)) (.int .i64 k) (ptr b)).run Tryz.prog w = .ok () (ChangeMaps.setBlock w M (.map (ms.push ⟨.int .i64 k, ptr b, clock⟩) (clock + 1))) := by
  obtain ⟨l, hl⟩ := int_lit hkk
  rcases vm_find hp hms hk hkk w with ⟨h1, h2⟩ | ⟨j, A, e, C, _, _, _, h1, h2⟩
  · simp [Instr.mapUpdate, run_underlying Tryz.underlying59, MapKept.run_getObj_map hb, keyedI.check w false hl, h2, MapKept.run_setObj_map _ hb, Result.andThen, ChangeMaps.setBlock]
  · rw [hn] at h1; cases h1
theorem vm_del (hb : w.heap[M]? = some (.map ms clock)) (hp : ∀ e ∈ vs, In64 e.n) (hms : ms.toList.map (fun x => (x.key, x.val)) = vs.map (fun e => (.int .i64 e.n, ptr e.b))) (hk : (vs.map Vr.n).Nodup) {e : Vr} (he : e ∈ vs) (ty : TypeId) :
    ∃ A C ms', vs = A ++ e :: C ∧ (Builtin.delete_ #[59, 3] ty #[.map (some M), .int .i64 e.n]).run Tryz.prog w = .ok (.tuple #[]) (ChangeMaps.setBlock w M (.map ms' clock)) ∧ ms'.toList.map (fun x => (x.key, x.val)) = (A ++ C).map (fun e => (.int .i64 e.n, ptr e.b)) := by
  obtain ⟨l, hl⟩ := int_lit (hp e he)
  rcases vm_find hp hms hk (hp e he) w with ⟨h1, h2⟩ | ⟨j, A, e', C, h0, hj, _, h1, h2⟩
  · rw [fv_of hk he] at h1; cases h1
  · rw [fv_of hk he] at h1
    cases h1
    have hsub : (ms.eraseIdxIfInBounds j).toList = ms.toList.eraseIdx j := by
      unfold Array.eraseIdxIfInBounds
      split
      · simp
      · rename_i hh
        rw [List.eraseIdx_of_length_le (by simpa using hh)]
    refine ⟨A, C, ms.eraseIdxIfInBounds j, h0, ?_, ?_⟩
    · simp [Builtin.delete_, run_underlying Tryz.underlying59, MapKept.run_getObj_map hb, keyedI.check w _ hl, h2, MapKept.run_setObj_map _ hb, Result.andThen, ChangeMaps.setBlock]
    · rw [hsub, ChangeMaps.map_eraseIdx, hms, ← ChangeMaps.map_eraseIdx, h0, ← hj]
      simp [List.eraseIdx_append_of_length_le]
end

end Go.Proofs.YtbcmmeajglilbaaGreat
