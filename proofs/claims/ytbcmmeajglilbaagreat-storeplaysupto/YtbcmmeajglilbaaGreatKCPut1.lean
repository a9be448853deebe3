import Derived.Test.YtbcmmeajglilbaaGreatKCGet
import Derived.Deep.RegionHeld3
import Derived.Deep.DeepCutAuto
import Derived.Deep.DeepAppendRoom
/-
  WHAT add LEAVES.
-/
namespace Go.Proofs.YtbcmmeajglilbaaGreat
open Go.RowKit Go.Sort

theorem pt_snoc_same (es : List En) (e : En) : pt e.p (es ++ [e]) = pt e.p es ++ [e] := by rw [pt_append, pt_cons_same rfl]; rfl
theorem pt_snoc_other {p : Nat} (es : List En) {e : En} (h : e.p ≠ p) : pt p (es ++ [e]) = pt p es := by rw [pt_append, pt_cons_other h]; simp [pt]
theorem pt_nil_mem {p : Nat} {es : List En} (h : pt p es = []) : ∀ x ∈ es, x.p ≠ p := fun x hx e => by
  have : x ∈ pt p es := pt_mem.2 ⟨hx, e⟩
  rw [h] at this; cases this

/-- where W has the map's new entry already -/
theorem DA.added1 {w W : World} {D M L P : Nat} {hf : Value} {es : List En} (h : DA w D M L hf P es) (e : En) (he : e.p < P ∧ KIn e.k ∧ True) (hk : fd es e.k = none) (hb : ∀ k, (k = D ∨ Ft M L es k) → k ≠ e.b)
    (hM : ∃ ms c, W.heap[M]? = some (.map ms c) ∧ ms.toList.map (fun x => (x.key, x.val)) = (es ++ [e]).map (fun e => (kv e.k, ptr e.b))) (hW : ∀ k, k ≠ M → W.heap[k]? = w.heap[k]?)
    (hE : w.heap[e.b]? = some (.cells (cellsE e (.pointer none) (.pointer none)) TE (0, 0))) (h0 : pt e.p es = []) :
    DA ((((W.setCell ⟨e.b, 4, none⟩ (.pointer none)).setCell ⟨L, e.p * 3, none⟩ (ptr e.b)).setCell ⟨L, e.p * 3 + 1, none⟩ (ptr e.b)).setCell ⟨L, e.p * 3 + 2, none⟩ (.int .i64 (((pt e.p es).length : Int) + 1))) D M L hf P (es ++ [e]) := by
  have nD := hb D (.inl rfl)
  have nM := hb M (.inr (.inl rfl))
  have nL := hb L (.inr (.inr (.inl rfl)))
  have nX : ∀ x ∈ es, x.b ≠ e.b := fun x hx => hb _ (.inr (.inr (.inr ⟨x, hx, rfl⟩)))
  obtain ⟨C, hC, hCs, hCl⟩ := h.ln
  have dL : D ≠ L := fun e' => by have := h.dc; rw [e', hC] at this; cases this
  obtain ⟨ms, c, hM1, hM2⟩ := hM
  obtain ⟨ms0, c0, hM0, _⟩ := h.mp
  have mD : D ≠ M := fun e' => by have := h.dc; rw [e', hM0] at this; cases this
  have mL : L ≠ M := fun e' => by have := hC; rw [e', hM0] at this; cases this
  have mX : ∀ x ∈ es, x.b ≠ M ∧ x.b ≠ L := fun x hx => by
    obtain ⟨a, b, hx'⟩ := h.entry hx
    exact ⟨fun e' => by (rw [e', hM0] at hx'; cases hx'), fun e' => by (rw [e', hC] at hx'; cases hx')⟩
  have eM : e.b ≠ M := Ne.symm nM
  have eL : e.b ≠ L := Ne.symm nL
  have keep : ∀ k, k ≠ e.b → k ≠ L → k ≠ M → ((((W.setCell ⟨e.b, 4, none⟩ (.pointer none)).setCell ⟨L, e.p * 3, none⟩ (ptr e.b)).setCell ⟨L, e.p * 3 + 1, none⟩ (ptr e.b)).setCell ⟨L, e.p * 3 + 2, none⟩ (.int .i64 (((pt e.p es).length : Int) + 1))).heap[k]? = w.heap[k]? := fun k h1 h2 h3 =>
    blk_oth _ (blk_oth _ (blk_oth _ (blk_oth _ (hW k h3) h1) h2) h2) h2
  obtain ⟨l0, l1, l2⟩ := hCl e.p he.1
  rw [Nat.mul_comm] at l0 l1 l2
  refine h.snoc e he hk nX (keep D nD dL mD) ⟨ms, c, blk_oth _ (blk_oth _ (blk_oth _ (blk_oth _ hM1 nM) (Ne.symm mL)) (Ne.symm mL)) (Ne.symm mL), hM2⟩ ⟨_, blk_set _ (blk_set _ (blk_set _ (blk_oth _ ((hW L mL).trans hC) nL))), by simpa using hCs, fun p hp' => ?_⟩ ?_ (fun A t C' hs h1 _ => ?_) (fun A x C' hs _ => ?_)
  · by_cases hpe : p = e.p
    · subst hpe
      rw [Nat.mul_comm 3, pt_snoc_same, h0]
      refine ⟨?_, ?_, ?_⟩
      · exact set_get (set_get (set_same l0) (by omega)) (by omega)
      · exact set_get (set_same (set_get l1 (by omega))) (by omega)
      · exact set_same (set_get (set_get l2 (by omega)) (by omega))
    · rw [pt_snoc_other es (Ne.symm hpe)]
      obtain ⟨g0, g1, g2⟩ := hCl p hp'
      exact ⟨set_get (set_get (set_get g0 (by omega)) (by omega)) (by omega), set_get (set_get (set_get g1 (by omega)) (by omega)) (by omega), set_get (set_get (set_get g2 (by omega)) (by omega)) (by omega)⟩
  · rw [h0]
    exact blk_oth _ (blk_oth _ (blk_oth _ (blk_set _ ((hW e.b eM).trans hE)) eL) eL) eL
  · exact absurd h1 (pt_nil_mem h0 t (by rw [hs]; simp))
  · have hx : x ∈ es := by rw [hs]; simp
    exact keep x.b (nX x hx) (mX x hx).2 (mX x hx).1
theorem DA.added2 {w W : World} {D M L P : Nat} {hf : Value} {es : List En} (h : DA w D M L hf P es) (e : En) (he : e.p < P ∧ KIn e.k ∧ True) (hk : fd es e.k = none) (hb : ∀ k, (k = D ∨ Ft M L es k) → k ≠ e.b)
    (hM : ∃ ms c, W.heap[M]? = some (.map ms c) ∧ ms.toList.map (fun x => (x.key, x.val)) = (es ++ [e]).map (fun e => (kv e.k, ptr e.b))) (hW : ∀ k, k ≠ M → W.heap[k]? = w.heap[k]?)
    (hE : w.heap[e.b]? = some (.cells (cellsE e (.pointer none) (.pointer none)) TE (0, 0))) {A0 C0 : List En} {t : En} (h0 : es = A0 ++ t :: C0) (htp : t.p = e.p) (hC0 : pt e.p C0 = []) :
    DA ((((W.setCell ⟨e.b, 4, none⟩ (ptr t.b)).setCell ⟨t.b, 5, none⟩ (ptr e.b)).setCell ⟨L, e.p * 3 + 1, none⟩ (ptr e.b)).setCell ⟨L, e.p * 3 + 2, none⟩ (.int .i64 (((pt e.p es).length : Int) + 1))) D M L hf P (es ++ [e]) := by
  have nD := hb D (.inl rfl)
  have nM := hb M (.inr (.inl rfl))
  have nL := hb L (.inr (.inr (.inl rfl)))
  have nX : ∀ x ∈ es, x.b ≠ e.b := fun x hx => hb _ (.inr (.inr (.inr ⟨x, hx, rfl⟩)))
  have ht : t ∈ es := by rw [h0]; simp
  obtain ⟨C, hC, hCs, hCl⟩ := h.ln
  have dL : D ≠ L := fun e' => by have := h.dc; rw [e', hC] at this; cases this
  obtain ⟨ms, c, hM1, hM2⟩ := hM
  obtain ⟨ms0, c0, hM0, _⟩ := h.mp
  have mD : D ≠ M := fun e' => by have := h.dc; rw [e', hM0] at this; cases this
  have mL : L ≠ M := fun e' => by have := hC; rw [e', hM0] at this; cases this
  have mX : ∀ x ∈ es, x.b ≠ M ∧ x.b ≠ L ∧ x.b ≠ D := fun x hx => by
    obtain ⟨a, b, hx'⟩ := h.entry hx
    exact ⟨fun e' => by (rw [e', hM0] at hx'; cases hx'), fun e' => by (rw [e', hC] at hx'; cases hx'), fun e' => by (rw [e', h.dc] at hx'; cases hx')⟩
  have eM : e.b ≠ M := Ne.symm nM
  have eL : e.b ≠ L := Ne.symm nL
  have tE : t.b ≠ e.b := nX t ht
  have keep : ∀ k, k ≠ e.b → k ≠ t.b → k ≠ L → k ≠ M → ((((W.setCell ⟨e.b, 4, none⟩ (ptr t.b)).setCell ⟨t.b, 5, none⟩ (ptr e.b)).setCell ⟨L, e.p * 3 + 1, none⟩ (ptr e.b)).setCell ⟨L, e.p * 3 + 2, none⟩ (.int .i64 (((pt e.p es).length : Int) + 1))).heap[k]? = w.heap[k]? := fun k h1 h4 h2 h3 =>
    blk_oth _ (blk_oth _ (blk_oth _ (blk_oth _ (hW k h3) h1) h4) h2) h2
  obtain ⟨l0, l1, l2⟩ := hCl e.p he.1
  rw [Nat.mul_comm] at l0 l1 l2
  have hne : pt e.p es ≠ [] := by rw [h0]; exact pt_ne htp
  refine h.snoc e he hk nX (keep D nD (Ne.symm (mX t ht).2.2) dL mD) ⟨ms, c, blk_oth _ (blk_oth _ (blk_oth _ (blk_oth _ hM1 nM) (Ne.symm (mX t ht).1)) (Ne.symm mL)) (Ne.symm mL), hM2⟩ ⟨_, blk_set _ (blk_set _ (blk_oth _ (blk_oth _ ((hW L mL).trans hC) nL) (Ne.symm (mX t ht).2.1))), by simpa using hCs, fun p hp' => ?_⟩ ?_ (fun A x C' hs h1 h2 => ?_) (fun A x C' hs hn => ?_)
  · by_cases hpe : p = e.p
    · subst hpe
      rw [Nat.mul_comm 3, pt_snoc_same, hp_append hne, lp_snoc]
      refine ⟨?_, ?_, ?_⟩
      · exact set_get (set_get l0 (by omega)) (by omega)
      · exact set_get (set_same l1) (by omega)
      · rw [List.length_append]
        exact set_same (set_get l2 (by omega))
    · rw [pt_snoc_other es (Ne.symm hpe)]
      obtain ⟨g0, g1, g2⟩ := hCl p hp'
      exact ⟨set_get (set_get g0 (by omega)) (by omega), set_get (set_get g1 (by omega)) (by omega), set_get (set_get g2 (by omega)) (by omega)⟩
  · have h5 : lp (pt e.p es) = ptr t.b := by rw [h0]; exact lp_last htp hC0
    rw [h5]
    exact blk_oth _ (blk_oth _ (blk_oth _ (blk_set _ ((hW e.b eM).trans hE)) (Ne.symm tE)) eL) eL
  · have h6 : lp (pt e.p es) = ptr x.b := by rw [hs]; exact lp_last h1 h2
    have h7 : lp (pt e.p es) = ptr t.b := by rw [h0]; exact lp_last htp hC0
    rw [h6] at h7
    have hxt : t.b = x.b := by injection h7 with h8; injection h8 with h9; injection h9 with h10; exact h10.symm
    have hbn := h.bn
    rw [h0] at hbn hs
    obtain ⟨rfl, rfl, rfl⟩ := split_uniq hbn hs hxt
    exact blk_oth _ (blk_oth _ (blk_set _ (blk_oth _ ((hW t.b (mX t ht).1).trans (h.en A0 t C0 h0)) tE)) (mX t ht).2.1) (mX t ht).2.1
  · have hx : x ∈ es := by rw [hs]; simp
    refine keep x.b (nX x hx) (fun hxt => ?_) (mX x hx).2.1 (mX x hx).1
    have hbn := h.bn
    rw [h0] at hbn hs
    obtain ⟨rfl, rfl, rfl⟩ := split_uniq hbn hs hxt.symm
    exact hn ⟨htp, hC0⟩
end Go.Proofs.YtbcmmeajglilbaaGreat
/-
  Put OF A KEY THAT IS NOT THERE.
-/
namespace Go.Proofs.YtbcmmeajglilbaaGreat
open Go.RowKit Go.Sort

def PartOK (f : Nat) (hh : K → Nat) : Prop := ∀ (w : World) (D M L P : Nat) (es : List En) (k : K), KIn k → DA w D M L (hfn f) P es → Calls Tryz.prog 70 #[ptr D, kv k] w fun e w' => e = .returned (.int .i64 ((hh k % P : Nat) : Int)) ∧ Below w.heap.size w w'
theorem DA.partc {w : World} {D M L P : Nat} {hf : Value} {es : List En} (h : DA w D M L hf P es) {e : En} (he : e ∈ es) : w.cell? ⟨e.b, 3, none⟩ = some (.int .i64 (e.p : Int)) := by
  obtain ⟨x, y, h1⟩ := h.entry he
  rw [World.cell?, h1]; rfl
/-- the entry as it is made -/
structure Mde (w wx : World) (E : Nat) (k : K) (v : Nat) (p : Nat) : Prop where
  blk : wx.heap[E]? = some (.cells (cellsE ⟨E, k, v, p⟩ (.pointer none) (.pointer none)) TE (0, 0))
  bel : Below w.heap.size w wx
  ge : w.heap.size ≤ E

set_option maxRecDepth 100000 in
set_option maxHeartbeats 1000000 in
theorem put_new (w : World) (D M L P f : Nat) (hh : K → Nat) (hok : PartOK f hh) (es : List En) (k : K) (v : Nat) (h : DA w D M L (hfn f) P es) (hk : KIn k) (hv : True) (he0 : fd es k = none) (hlen : es.length ≤ 140737488355328) :
    Calls Tryz.prog 47 #[ptr D, kv k, ptr v] w fun e w' => ∃ E, e = .returned (.tuple #[.pointer none, .bool false]) ∧ DA w' D M L (hfn f) P (es ++ [⟨E, k, v, hh k % P⟩]) ∧ w.heap.size ≤ E ∧ Fr (Ft M L es) w w' := by
  have HD : Hid (DA w D M L (hfn f) P es ∧ KIn k ∧ True) := ⟨h, hk, hv⟩
  have HE : Hid (fd es k = none) := he0
  have HP : Hid (PartOK f hh) := hok
  have HLn : Hid (es.length ≤ 140737488355328) := hlen
  clear h hk hv he0 hok hlen
  obtain ⟨k1, k2⟩ := k
  go_enter Tryz.func47, Tryz.ntmps47
  go_wp2_with fail
  have HB1 : Hid (Below w.heap.size w (w.alloc (.cells #[.int .i64 k1, .int .i64 k2] 41))) := (Below.refl _ _).alloc (Nat.le_refl _) _
  have HX1 : Hid ((w.alloc (.cells #[.int .i64 k1, .int .i64 k2] 41)).heap[w.heap.size]? = some (.cells #[.int .i64 k1, .int .i64 k2] 41 (0, 0))) := heap_alloc_new _ _ rfl
  generalize w.alloc (.cells #[.int .i64 k1, .int .i64 k2] 41) = W1 at *
  refine (isKey_any W1 (k1, k2)).mono ?_
  rintro e w2 ⟨rfl, hb2⟩
  have HB2 : Hid (Below w.heap.size w w2) := HB1.out.trans (hb2.mono HB1.out.size)
  have HX2 : Hid (w2.heap[w.heap.size]? = some (.cells #[.int .i64 k1, .int .i64 k2] 41 (0, 0))) := (hb2.block _ (blk_lt HX1.out)).trans HX1.out
  have HD2 : Hid (DA w2 D M L (hfn f) P es) := HD.out.1.kept HB2.out
  clear hb2 HB1 HX1
  obtain ⟨_, c1, _⟩ := HD2.out.cells
  have b0 : w2.cell? ⟨w.heap.size, 0, none⟩ = some (.int .i64 k1) := by rw [World.cell?, HX2.out]; rfl
  have b1 : w2.cell? ⟨w.heap.size, 1, none⟩ = some (.int .i64 k2) := by rw [World.cell?, HX2.out]; rfl
  have hl := HD2.out.lookN HD.out.2.1
  rw [HE.out] at hl
  simp only [fp] at hl
  go_wp2_with fail
  go_quiet (fail)
  clear c1 b0 b1 hl
  have HB3 : Hid (Below w.heap.size w (w2.drewN nq)) := HB2.out.trans (((Grew.refl w2).drewN nq).below.mono HB2.out.size)
  have HX3 : Hid ((w2.drewN nq).heap[w.heap.size]? = some (.cells #[.int .i64 k1, .int .i64 k2] 41 (0, 0))) := HX2.out
  have HD3 : Hid (DA (w2.drewN nq) D M L (hfn f) P es) := HD2.out.same (fun _ _ => rfl)
  generalize w2.drewN nq = w3 at *
  clear HB2 HX2 HD2
  have b0 : w3.cell? ⟨w.heap.size, 0, none⟩ = some (.int .i64 k1) := by rw [World.cell?, HX3.out]; rfl
  have b1 : w3.cell? ⟨w.heap.size, 1, none⟩ = some (.int .i64 k2) := by rw [World.cell?, HX3.out]; rfl
  go_upto_region 9 with fail
  go_cut [11] (fun u wx => ∃ E, u = ptr E ∧ Hid (Mde w3 wx E (k1, k2) v (hh (k1, k2) % P)))
  case first =>
    have HPd : Hid (∀ W, Below w3.heap.size w3 W → Calls Tryz.prog 70 #[ptr D, .agg #[.int .i64 k1, .int .i64 k2]] W fun e w' => e = .returned (.int .i64 ((hh (k1, k2) % P : Nat) : Int)) ∧ Below W.heap.size W w') := fun W hW => HP.out W D M L P es (k1, k2) HD.out.2.1 (HD3.out.kept hW)
    have HB0 : Hid (Below w3.heap.size w3 w3.drew) := ((Grew.refl w3).drewN 1).below
    generalize hh (k1, k2) % P = pp at *
    go_region_held3 (fun w' => w'.cell? ⟨w.heap.size, 0, none⟩ = some (.int .i64 k1) ∧ w'.cell? ⟨w.heap.size, 1, none⟩ = some (.int .i64 k2)) (first | exact ⟨(HBq.out.cell (p := ⟨w.heap.size, 0, none⟩) (blk_lt HX3.out)).trans b0, (HBq.out.cell (p := ⟨w.heap.size, 1, none⟩) (blk_lt HX3.out)).trans b1⟩ | go_keep) (first | (go_at_call 70; refine (HPd.out _ HB0.out).mono ?_; rintro e wq ⟨rfl, hbq⟩; have HBq : Hid (Below w3.heap.size w3 wq) := HB0.out.trans (hbq.mono HB0.out.size); clear hbq))
    have HMd : Hid (Mde w3 (wq.alloc (.cells (cellsE ⟨wq.heap.size, (k1, k2), v, pp⟩ (.pointer none) (.pointer none)) TE)) wq.heap.size (k1, k2) v pp) := ⟨heap_alloc_new _ _ rfl, HBq.out.alloc HBq.out.size _, HBq.out.size⟩
    go_wp2_with fail
    go_meet
    exact ⟨_, rfl, HMd⟩
  case rest =>
    obtain ⟨E, rfl, HMd⟩ := hcut
    have HBc : Hid (Below w.heap.size w wc) := HB3.out.trans (HMd.out.bel.mono HB3.out.size)
    have HDc : Hid (DA wc D M L (hfn f) P es) := HD3.out.kept HMd.out.bel
    have HXc : Hid (wc.heap[w.heap.size]? = some (.cells #[.int .i64 k1, .int .i64 k2] 41 (0, 0))) := (HMd.out.bel.block _ (blk_lt HX3.out)).trans HX3.out
    have HEb : Hid (wc.heap[E]? = some (.cells (cellsE ⟨E, (k1, k2), v, hh (k1, k2) % P⟩ (.pointer none) (.pointer none)) TE (0, 0)) ∧ w3.heap.size ≤ E ∧ w.heap.size < E) := ⟨HMd.out.blk, HMd.out.ge, by have := HMd.out.ge; have := blk_lt HX3.out; omega⟩
    have HNe : Hid (∀ k, (k = D ∨ Ft M L es k) → k ≠ E) := fun k hk e' => by have := HD3.out.lt hk; have := HMd.out.ge; omega
    clear b0 b1 HMd
    obtain ⟨_, c1, c2⟩ := HDc.out.cells
    have b0 : wc.cell? ⟨w.heap.size, 0, none⟩ = some (.int .i64 k1) := by rw [World.cell?, HXc.out]; rfl
    have b1 : wc.cell? ⟨w.heap.size, 1, none⟩ = some (.int .i64 k2) := by rw [World.cell?, HXc.out]; rfl
    obtain ⟨ms, clock, hm1, hm2⟩ := HDc.out.mp
    have hmu : (Instr.mapUpdate 92 (.map (some M)) (.agg #[.int .i64 k1, .int .i64 k2]) (ptr E)).run Tryz.prog wc.drew = .ok () (ChangeMaps.setBlock wc.drew M (.map (ms.push ⟨kv (k1, k2), ptr E, clock⟩) (clock + 1))) :=
      map_put (w := wc.drew) (k := (k1, k2)) hm1 (fun e he => (HDc.out.pp e he).2.1) hm2 HDc.out.kn HD.out.2.1 HE.out E
    have HM4 : Hid (∃ ms' c, (ChangeMaps.setBlock wc.drew M (.map (ms.push ⟨kv (k1, k2), ptr E, clock⟩) (clock + 1))).heap[M]? = some (.map ms' c) ∧ ms'.toList.map (fun x => (x.key, x.val)) = (es ++ [(⟨E, (k1, k2), v, hh (k1, k2) % P⟩ : En)]).map (fun e => (kv e.k, ptr e.b))) :=
      ⟨_, _, ChangeMaps.heap_setBlock_same (w := wc.drew) hm1 _, by simp [hm2]⟩
    have HO4 : Hid (∀ k, k ≠ M → (ChangeMaps.setBlock wc.drew M (.map (ms.push ⟨kv (k1, k2), ptr E, clock⟩) (clock + 1))).heap[k]? = wc.heap[k]?) := fun k hk => ChangeMaps.heap_setBlock_other (w := wc.drew) hm1 _ hk
    have HF4 : Hid (Fr (Ft M L es) w (ChangeMaps.setBlock wc.drew M (.map (ms.push ⟨kv (k1, k2), ptr E, clock⟩) (clock + 1)))) := by
      have h1 := HBc.out
      have h2 : (ChangeMaps.setBlock wc.drew M (.map (ms.push ⟨kv (k1, k2), ptr E, clock⟩) (clock + 1))).heap.size = wc.heap.size := by simp [ChangeMaps.setBlock]
      exact ⟨h1.os, h1.tape, h1.output, by rw [h2]; exact h1.size, fun k hk hS => (HO4.out k (fun e' => hS (.inl e'))).trans (h1.block k hk)⟩
    go_upto_region 10 with fail
    go_region
    generalize ChangeMaps.setBlock wc.drew M (.map (ms.push ⟨kv (k1, k2), ptr E, clock⟩) (clock + 1)) = W4 at *
    clear b0 b1 c1 c2 hmu hm1 hm2
    have HEn : Hid (hh (k1, k2) % P < P) := Nat.mod_lt _ (by have := HDc.out.P0; omega)
    generalize hpp : hh (k1, k2) % P = pp at *
    have nE : E ≠ M ∧ E ≠ L ∧ D ≠ M ∧ L ≠ M := by
      refine ⟨Ne.symm (HNe.out M (.inr (.inl rfl))), Ne.symm (HNe.out L (.inr (.inr (.inl rfl)))), fun e' => ?_, fun e' => ?_⟩
      · obtain ⟨_, _, h1, _⟩ := HDc.out.mp; have h2 := HDc.out.dc; rw [e', h1] at h2; cases h2
      · obtain ⟨_, _, h1, _⟩ := HDc.out.mp; obtain ⟨_, h2, _⟩ := HDc.out.ln; rw [e', h1] at h2; cases h2
    have hD4 : W4.heap[D]? = _ := (HO4.out D nE.2.2.1).trans HDc.out.dc
    have d2 : W4.cell? ⟨D, 2, none⟩ = some (.slice (some ⟨L, 0, none⟩) P P) := by rw [World.cell?, hD4]; rfl
    have hE4 : W4.heap[E]? = some (.cells (cellsE ⟨E, (k1, k2), v, pp⟩ (.pointer none) (.pointer none)) TE (0, 0)) := (HO4.out E nE.1).trans HEb.out.1
    have e3 : W4.cell? ⟨E, 3, none⟩ = some (.int .i64 (pp : Int)) := by rw [World.cell?, hE4]; rfl
    have hpi : (pp : Int) < (P : Int) := by have := HEn.out; omega
    have HAdd : Hid (∀ n, Calls Tryz.prog 71 #[.pointer (some ⟨L, pp * 3, none⟩), ptr E] (W4.drewN n) fun e w' => e = .returned (.tuple #[]) ∧ DA w' D M L (hfn f) P (es ++ [⟨E, (k1, k2), v, pp⟩]) ∧ Fr (Ft M L es) w w') := fun n => by
      obtain ⟨C, hC, hCs, hCl⟩ := HDc.out.ln
      obtain ⟨l0, l1, l2⟩ := hCl pp HEn.out
      rw [Nat.mul_comm] at l0 l1 l2
      have hL4 : (W4.drewN n).heap[L]? = some (.cells C TL (0, 0)) := (HO4.out L nE.2.2.2).trans hC
      have hE4' : (W4.drewN n).heap[E]? = some (.cells (cellsE ⟨E, (k1, k2), v, pp⟩ (.pointer none) (.pointer none)) TE (0, 0)) := hE4
      have hlt : (pt pp es).length ≤ 140737488355328 := by
        have h1 : (pt pp es).length ≤ es.length := List.length_filter_le _ _
        have := HLn.out; omega
      have hF4 : Fr (Ft M L es) w (W4.drewN n) := ⟨HF4.out.os, HF4.out.tape, HF4.out.output, HF4.out.size, HF4.out.block⟩
      have hwE : w.heap.size ≤ E := by have := HEb.out.2.2; omega
      have hEn : (⟨E, (k1, k2), v, pp⟩ : En).p < P ∧ KIn (⟨E, (k1, k2), v, pp⟩ : En).k ∧ True := ⟨HEn.out, HD.out.2.1, HD.out.2.2⟩
      by_cases h0 : pt pp es = []
      · rw [h0] at l0 l1
        refine (add_first (W4.drewN n) L (pp * 3) E (pt pp es).length C none k1 k2 v (pp : Int) none none hL4 l0 l1 l2 hlt hE4' nE.2.1).mono ?_
        rintro e w' ⟨rfl, rfl⟩
        exact ⟨rfl, DA.added1 (W := W4.drewN n) HDc.out ⟨E, (k1, k2), v, pp⟩ hEn HE.out HNe.out HM4.out HO4.out HEb.out.1 h0,
          (((hF4.set _ _ (.inl hwE)).set _ _ (.inr (.inr (.inl rfl)))).set _ _ (.inr (.inr (.inl rfl)))).set _ _ (.inr (.inr (.inl rfl)))⟩
      · obtain ⟨A0, t, C0, hes, htp, hC0⟩ := last_split h0
        have hti : t ∈ es := by rw [hes]; simp
        have htl : lp (pt pp es) = ptr t.b := by rw [hes]; exact lp_last htp hC0
        rw [htl] at l1
        have ht4 := HDc.out.en A0 t C0 hes
        obtain ⟨o1, ho1⟩ := lp_ptr (pt t.p A0)
        obtain ⟨o2, ho2⟩ := hp_ptr (pt t.p C0)
        rw [ho1, ho2] at ht4
        have ntM : t.b ≠ M := fun e' => by obtain ⟨_, _, h1, _⟩ := HDc.out.mp; rw [e', h1] at ht4; cases ht4
        have ntL : t.b ≠ L := fun e' => by rw [e', hC] at ht4; cases ht4
        refine (add_more (W4.drewN n) L (pp * 3) E t.b (pt pp es).length C k1 k2 v (pp : Int) t.k.1 t.k.2 t.v (t.p : Int) none none o1 o2 hL4 l1 l2 hlt hE4' ((HO4.out t.b ntM).trans ht4) nE.2.1 ntL (HNe.out _ (.inr (.inr (.inr ⟨t, hti, rfl⟩))))).mono ?_
        rintro e w' ⟨rfl, rfl⟩
        exact ⟨rfl, DA.added2 (W := W4.drewN n) HDc.out ⟨E, (k1, k2), v, pp⟩ hEn HE.out HNe.out HM4.out HO4.out HEb.out.1 hes htp hC0,
          (((hF4.set _ _ (.inl hwE)).set _ _ (.inr (.inr (.inr ⟨t, hti, rfl⟩)))).set _ _ (.inr (.inr (.inl rfl)))).set _ _ (.inr (.inr (.inl rfl)))⟩
    have hwE : w.heap.size ≤ E := by have := HEb.out.2.2; omega
    go_upto_region 11 with fail
    go_region_held3 (fun w' => w'.cell? ⟨D, 2, none⟩ = some (.slice (some ⟨L, 0, none⟩) P P) ∧ w'.cell? ⟨E, 3, none⟩ = some (.int .i64 (pp : Int))) (first | exact ⟨HAq.out.1.cells.2.2, HAq.out.1.partc (e := ⟨E, (k1, k2), v, pp⟩) (by simp)⟩ | go_keep) (first | (go_at_call 71; refine (HAdd.out 1).mono ?_; rintro e wq ⟨rfl, hA⟩; have HAq : Hid (DA wq D M L (hfn f) P (es ++ [⟨E, (k1, k2), v, pp⟩]) ∧ Fr (Ft M L es) w wq) := hA; clear hA))
    go_wp2
    go_ret2
    exact ⟨E, rfl, by rw [hpp]; exact HAq.out.1, hwE, HAq.out.2⟩
end Go.Proofs.YtbcmmeajglilbaaGreat
/-
  Keys.
-/
namespace Go.Proofs.YtbcmmeajglilbaaGreat
open Go.RowKit Go.Sort

def slLen : Value → Nat
  | .slice _ n _ => n
  | _ => 0
/-- an entry amid its line -/
theorem pt_at {p : Nat} : ∀ {es X Y : List En} {x : En}, pt p es = X ++ x :: Y → ∃ A C, es = A ++ x :: C ∧ pt p A = X ∧ pt p C = Y ∧ x.p = p := by
  intro es X Y x h
  obtain ⟨A, B, rfl, h1, h2⟩ := List.filter_eq_append_iff.1 h
  obtain ⟨B1, C, rfl, h3, h4, h5⟩ := List.filter_eq_cons_iff.1 h2
  refine ⟨A ++ B1, C, by simp, ?_, h5, by simpa using h4⟩
  rw [pt_append, show pt p A = X from h1, show pt p B1 = [] from List.filter_eq_nil_iff.2 h3, List.append_nil]
theorem DA.node {w : World} {D M L P : Nat} {hf : Value} {es : List En} (h : DA w D M L hf P es) {p : Int} {X Y : List En} {x : En} (hl : ptI P p es = X ++ x :: Y) :
    w.cell? ⟨x.b, 0, none⟩ = some (.int .i64 x.k.1) ∧ w.cell? ⟨x.b, 1, none⟩ = some (.int .i64 x.k.2) ∧ w.cell? ⟨x.b, 2, none⟩ = some (ptr x.v) ∧ w.cell? ⟨x.b, 5, none⟩ = some (hp Y) := by
  unfold ptI at hl
  split at hl
  · obtain ⟨A, C, rfl, _, h2, h3⟩ := pt_at hl
    have hen := h.en A x C rfl
    rw [h3, h2] at hen
    refine ⟨?_, ?_, ?_, ?_⟩ <;> rw [World.cell?, hen] <;> rfl
  · simp at hl
theorem cks_snoc (L : List K) (k : K) : cks (L ++ [k]) = cks L ++ [.int .i64 k.1, .int .i64 k.2] := by rw [cks_append]; rfl
theorem key_new (w : World) (x y : Int) : ∀ j u, ([.int .i64 x, .int .i64 y] : List Value)[j]? = some u → (w.alloc (.cells #[.int .i64 x, .int .i64 y] 41)).cell? ((⟨w.heap.size, 0, none⟩ : Addr).add j) = some u := by
  intro j u hu
  have hb := Box.new (w := w) (b := w.heap.size) (x := x) (y := y) rfl
  rw [addr_add]
  match j, hu with
  | 0, hu => simp at hu; rw [← hu]; exact hb.1
  | 1, hu => simp at hu; rw [← hu]; exact hb.2
  | j + 2, hu => simp at hu
theorem make_keys0 (c : Nat) (hc : c * 16 ≤ 281474976710656) (u : World) : (Instr.makeSlice 85 (.int .i64 0) (.int .i64 (c : Int))).run Tryz.prog u = .ok (.slice (some ⟨u.heap.size, 0, none⟩) 0 c) (u.alloc (.cells (madeCells #[.int .i64 0, .int .i64 0] (c * 2)) 41)) := by
  obtain ⟨i0, hi, hz0, hz1, hz2⟩ := info_parts infoK
  have h := run_make (P := Tryz.prog) u 85 41 i0 (.agg #[.int .i64 0, .int .i64 0]) Tryz.underlying85 hi hz0 .i64 .i64 (0 : Int) (c : Int) (by omega) (by omega) (by rw [hz2]; omega) (by omega)
  rw [hz1, Int.toNat_natCast] at h
  exact h

end Go.Proofs.YtbcmmeajglilbaaGreat
/-
  WHAT drop LEAVES.
-/
namespace Go.Proofs.YtbcmmeajglilbaaGreat
open Go.RowKit Go.Sort

theorem ptr_inj {a b : Nat} (h : ptr a = ptr b) : a = b := by injection h with h8; injection h8 with h9; injection h9
theorem pt_erase_other {p : Nat} {A C : List En} {e : En} (h : e.p ≠ p) : pt p (A ++ e :: C) = pt p (A ++ C) := by rw [pt_append, pt_cons_other h, pt_append]
theorem pt_erase_same (A C : List En) (e : En) : pt e.p (A ++ e :: C) = pt e.p A ++ e :: pt e.p C := by rw [pt_append, pt_cons_same rfl]
theorem set5 (a : En) (x y z : Value) : (cellsE a x y).setIfInBounds 5 z = cellsE a x z := by simp [cellsE]
theorem set4 (a : En) (x y z : Value) : (cellsE a x y).setIfInBounds 4 z = cellsE a z y := by simp [cellsE]
theorem DA.taken_one {w W : World} {D M L P : Nat} {hf : Value} {A C : List En} {e : En} (h : DA w D M L hf P (A ++ e :: C)) (hA0 : pt e.p A = []) (hC0 : pt e.p C = [])
    (hM : ∃ ms c, W.heap[M]? = some (.map ms c) ∧ ms.toList.map (fun x => (x.key, x.val)) = (A ++ C).map (fun e => (kv e.k, ptr e.b))) (hW : ∀ k, k ≠ M → W.heap[k]? = w.heap[k]?) (q : Nat) (nsz : Int) (hsz : nsz = ((pt e.p (A ++ C)).length : Int)) :
    DA ((((W.setCell ⟨L, e.p * 3, none⟩ (.pointer none)).setCell ⟨L, e.p * 3 + 1, none⟩ (.pointer none)).setCell ⟨L, e.p * 3 + 2, none⟩ (.int .i64 nsz)).drewN q) D M L hf P (A ++ C) := by
  obtain ⟨Z, hZ, hZs, hZl⟩ := h.ln
  obtain ⟨ms0, c0, hM0, _⟩ := h.mp
  obtain ⟨ms, cl, hM1, hM2⟩ := hM
  have dL : D ≠ L := fun e' => by have := h.dc; rw [e', hZ] at this; cases this
  have mD : D ≠ M := fun e' => by have := h.dc; rw [e', hM0] at this; cases this
  have mL : L ≠ M := fun e' => by have := hZ; rw [e', hM0] at this; cases this
  have mX : ∀ x ∈ A ++ e :: C, x.b ≠ M ∧ x.b ≠ L ∧ x.b ≠ D := fun x hx => by
    obtain ⟨u, v, hx'⟩ := h.entry hx
    exact ⟨fun e' => by (rw [e', hM0] at hx'; cases hx'), fun e' => by (rw [e', hZ] at hx'; cases hx'), fun e' => by (rw [e', h.dc] at hx'; cases hx')⟩
  have hbn := h.bn
  have hpa : lp (pt e.p A) = .pointer none := by rw [hA0]; rfl
  have hsc : hp (pt e.p C) = .pointer none := by rw [hC0]; rfl
  have apart : ∀ x ∈ A, ∀ y ∈ C, x.b ≠ y.b := fun x hx y hy => by
    rw [List.map_append, List.map_cons, List.nodup_append] at hbn
    exact hbn.2.2 _ (List.mem_map.2 ⟨x, hx, rfl⟩) _ (by simp; exact .inr ⟨y, hy, rfl⟩)
  have keep : ∀ k, k ≠ M → k ≠ L → ((((W.setCell ⟨L, e.p * 3, none⟩ (.pointer none)).setCell ⟨L, e.p * 3 + 1, none⟩ (.pointer none)).setCell ⟨L, e.p * 3 + 2, none⟩ (.int .i64 nsz)).drewN q).heap[k]? = w.heap[k]? := fun k kM kL =>
    blk_oth _ (blk_oth _ (blk_oth _ (hW k kM) kL) kL) kL
  obtain ⟨l0, l1, l2⟩ := hZl e.p (h.pp e (by simp)).1
  rw [Nat.mul_comm, pt_erase_same] at l0 l1 l2
  refine h.erase (keep D mD dL) ⟨ms, cl, blk_oth _ (blk_oth _ (blk_oth _ hM1 (Ne.symm mL)) (Ne.symm mL)) (Ne.symm mL), hM2⟩ ⟨_, (blk_set _ (blk_set _ (blk_set _ ((hW L mL).trans hZ)))), by simpa using hZs, fun p hp' => ?_⟩ (fun A0' a' A2' hs h1 h2 => ?_) (fun C1' c' C2' hs h1 h2 => ?_) (fun A0' x A2' hs hn => ?_) (fun C1' x C2' hs hn => ?_)
  · by_cases hpe : p = e.p
    · subst hpe
      rw [hA0, hC0] at l0 l1 l2
      rw [pt_append, hA0, hC0] at hsz
      have hsz' := hsz
      rw [Nat.mul_comm 3, pt_append, hA0, hC0]
      exact ⟨set_get (set_get (set_same l0) (by omega)) (by omega), set_get (set_same (set_get (l1) (by omega))) (by omega), by rw [← hsz']; exact set_same (set_get (set_get (l2) (by omega)) (by omega))⟩
    · rw [← pt_erase_other (Ne.symm hpe)]
      obtain ⟨g0, g1, g2⟩ := hZl p hp'
      exact ⟨set_get (set_get (set_get (g0) (by omega)) (by omega)) (by omega), set_get (set_get (set_get (g1) (by omega)) (by omega)) (by omega), set_get (set_get (set_get (g2) (by omega)) (by omega)) (by omega)⟩
  · exact absurd h1 (pt_nil_mem hA0 a' (by rw [hs]; simp))
  · exact absurd h1 (pt_nil_mem hC0 c' (by rw [hs]; simp))
  · have hxA : x ∈ A := by rw [hs]; simp
    have hx : x ∈ A ++ e :: C := by simp [hxA]
    exact keep x.b (mX x hx).1 (mX x hx).2.1
  · have hxC : x ∈ C := by rw [hs]; simp
    have hx : x ∈ A ++ e :: C := by simp [hxC]
    exact keep x.b (mX x hx).1 (mX x hx).2.1
theorem DA.taken_first {w W : World} {D M L P : Nat} {hf : Value} {A C : List En} {e : En} (h : DA w D M L hf P (A ++ e :: C)) (hA0 : pt e.p A = []) {C1 C2 : List En} {c : En} (hC : C = C1 ++ c :: C2) (hcp : c.p = e.p) (hC1 : pt e.p C1 = [])
    (hM : ∃ ms c, W.heap[M]? = some (.map ms c) ∧ ms.toList.map (fun x => (x.key, x.val)) = (A ++ C).map (fun e => (kv e.k, ptr e.b))) (hW : ∀ k, k ≠ M → W.heap[k]? = w.heap[k]?) (q : Nat) (nsz : Int) (hsz : nsz = ((pt e.p (A ++ C)).length : Int)) :
    DA ((((W.setCell ⟨L, e.p * 3, none⟩ (ptr c.b)).setCell ⟨c.b, 4, none⟩ (.pointer none)).setCell ⟨L, e.p * 3 + 2, none⟩ (.int .i64 nsz)).drewN q) D M L hf P (A ++ C) := by
  obtain ⟨Z, hZ, hZs, hZl⟩ := h.ln
  obtain ⟨ms0, c0, hM0, _⟩ := h.mp
  obtain ⟨ms, cl, hM1, hM2⟩ := hM
  have dL : D ≠ L := fun e' => by have := h.dc; rw [e', hZ] at this; cases this
  have mD : D ≠ M := fun e' => by have := h.dc; rw [e', hM0] at this; cases this
  have mL : L ≠ M := fun e' => by have := hZ; rw [e', hM0] at this; cases this
  have mX : ∀ x ∈ A ++ e :: C, x.b ≠ M ∧ x.b ≠ L ∧ x.b ≠ D := fun x hx => by
    obtain ⟨u, v, hx'⟩ := h.entry hx
    exact ⟨fun e' => by (rw [e', hM0] at hx'; cases hx'), fun e' => by (rw [e', hZ] at hx'; cases hx'), fun e' => by (rw [e', h.dc] at hx'; cases hx')⟩
  have hbn := h.bn
  have hpa : lp (pt e.p A) = .pointer none := by rw [hA0]; rfl
  have hc : c ∈ A ++ e :: C := by rw [hC]; simp
  have hcC : (C.map En.b).Nodup := by rw [List.map_append, List.map_cons, List.nodup_append, List.nodup_cons] at hbn; exact hbn.2.1.2
  have hsc : hp (pt e.p C) = ptr c.b := by rw [hC]; exact hp_first hcp hC1
  have hnc : pt e.p C ≠ [] := by rw [hC]; exact pt_ne hcp
  have apart : ∀ x ∈ A, ∀ y ∈ C, x.b ≠ y.b := fun x hx y hy => by
    rw [List.map_append, List.map_cons, List.nodup_append] at hbn
    exact hbn.2.2 _ (List.mem_map.2 ⟨x, hx, rfl⟩) _ (by simp; exact .inr ⟨y, hy, rfl⟩)
  have keep : ∀ k, k ≠ M → k ≠ L → k ≠ c.b → ((((W.setCell ⟨L, e.p * 3, none⟩ (ptr c.b)).setCell ⟨c.b, 4, none⟩ (.pointer none)).setCell ⟨L, e.p * 3 + 2, none⟩ (.int .i64 nsz)).drewN q).heap[k]? = w.heap[k]? := fun k kM kL kc =>
    blk_oth _ (blk_oth _ (blk_oth _ (hW k kM) kL) kc) kL
  obtain ⟨l0, l1, l2⟩ := hZl e.p (h.pp e (by simp)).1
  rw [Nat.mul_comm, pt_erase_same] at l0 l1 l2
  refine h.erase (keep D mD dL (Ne.symm (mX c hc).2.2)) ⟨ms, cl, blk_oth _ (blk_oth _ (blk_oth _ hM1 (Ne.symm mL)) (Ne.symm (mX c hc).1)) (Ne.symm mL), hM2⟩ ⟨_, (blk_set _ (blk_oth _ (blk_set _ ((hW L mL).trans hZ)) (Ne.symm (mX c hc).2.1))), by simpa using hZs, fun p hp' => ?_⟩ (fun A0' a' A2' hs h1 h2 => ?_) (fun C1' c' C2' hs h1 h2 => ?_) (fun A0' x A2' hs hn => ?_) (fun C1' x C2' hs hn => ?_)
  · by_cases hpe : p = e.p
    · subst hpe
      rw [hA0, List.nil_append] at l0 l1 l2
      rw [show e :: pt e.p C = [e] ++ pt e.p C from rfl, lp_append hnc] at l1
      rw [pt_append, hA0, List.nil_append] at hsz
      have hsz' := hsz
      rw [Nat.mul_comm 3, pt_append, hA0, List.nil_append, hsc]
      exact ⟨set_get (set_same l0) (by omega), set_get (set_get (l1) (by omega)) (by omega), by rw [← hsz']; exact set_same (set_get (l2) (by omega))⟩
    · rw [← pt_erase_other (Ne.symm hpe)]
      obtain ⟨g0, g1, g2⟩ := hZl p hp'
      exact ⟨set_get (set_get (g0) (by omega)) (by omega), set_get (set_get (g1) (by omega)) (by omega), set_get (set_get (g2) (by omega)) (by omega)⟩
  · exact absurd h1 (pt_nil_mem hA0 a' (by rw [hs]; simp))
  · have h6 : hp (pt e.p C) = ptr c'.b := by rw [hs]; exact hp_first h1 h2
    rw [hsc] at h6
    have hxt := ptr_inj h6
    rw [hC] at hcC hs
    obtain ⟨rfl, rfl, rfl⟩ := split_uniq hcC hs hxt
    rw [hpa]
    have hen := h.en (A ++ e :: C1) c C2 (by rw [hC]; simp)
    have h9 := blk_set (i := 4) (.pointer none) (blk_oth (b := L) (i := e.p * 3) (ptr c.b) ((hW c.b (mX c hc).1).trans hen) (mX c hc).2.1)
    rw [set4] at h9
    exact blk_oth _ h9 (mX c hc).2.1
  · have hxA : x ∈ A := by rw [hs]; simp
    have hx : x ∈ A ++ e :: C := by simp [hxA]
    exact keep x.b (mX x hx).1 (mX x hx).2.1 (apart x hxA c (by rw [hC]; simp))
  · have hxC : x ∈ C := by rw [hs]; simp
    have hx : x ∈ A ++ e :: C := by simp [hxC]
    exact keep x.b (mX x hx).1 (mX x hx).2.1 (fun hxt => by
      rw [hC] at hcC hs
      obtain ⟨rfl, rfl, rfl⟩ := split_uniq hcC hs hxt.symm
      exact hn ⟨hcp, hC1⟩)
theorem DA.taken_last {w W : World} {D M L P : Nat} {hf : Value} {A C : List En} {e : En} (h : DA w D M L hf P (A ++ e :: C)) {A0 A2 : List En} {a : En} (hA : A = A0 ++ a :: A2) (hap : a.p = e.p) (hA2 : pt e.p A2 = []) (hC0 : pt e.p C = [])
    (hM : ∃ ms c, W.heap[M]? = some (.map ms c) ∧ ms.toList.map (fun x => (x.key, x.val)) = (A ++ C).map (fun e => (kv e.k, ptr e.b))) (hW : ∀ k, k ≠ M → W.heap[k]? = w.heap[k]?) (q : Nat) (nsz : Int) (hsz : nsz = ((pt e.p (A ++ C)).length : Int)) :
    DA ((((W.setCell ⟨a.b, 5, none⟩ (.pointer none)).setCell ⟨L, e.p * 3 + 1, none⟩ (ptr a.b)).setCell ⟨L, e.p * 3 + 2, none⟩ (.int .i64 nsz)).drewN q) D M L hf P (A ++ C) := by
  obtain ⟨Z, hZ, hZs, hZl⟩ := h.ln
  obtain ⟨ms0, c0, hM0, _⟩ := h.mp
  obtain ⟨ms, cl, hM1, hM2⟩ := hM
  have dL : D ≠ L := fun e' => by have := h.dc; rw [e', hZ] at this; cases this
  have mD : D ≠ M := fun e' => by have := h.dc; rw [e', hM0] at this; cases this
  have mL : L ≠ M := fun e' => by have := hZ; rw [e', hM0] at this; cases this
  have mX : ∀ x ∈ A ++ e :: C, x.b ≠ M ∧ x.b ≠ L ∧ x.b ≠ D := fun x hx => by
    obtain ⟨u, v, hx'⟩ := h.entry hx
    exact ⟨fun e' => by (rw [e', hM0] at hx'; cases hx'), fun e' => by (rw [e', hZ] at hx'; cases hx'), fun e' => by (rw [e', h.dc] at hx'; cases hx')⟩
  have hbn := h.bn
  have ha : a ∈ A ++ e :: C := by rw [hA]; simp
  have haA : (A.map En.b).Nodup := by rw [List.map_append, List.nodup_append] at hbn; exact hbn.1
  have hpa : lp (pt e.p A) = ptr a.b := by rw [hA]; exact lp_last hap hA2
  have hne : pt e.p A ≠ [] := by rw [hA]; exact pt_ne hap
  have hsc : hp (pt e.p C) = .pointer none := by rw [hC0]; rfl
  have apart : ∀ x ∈ A, ∀ y ∈ C, x.b ≠ y.b := fun x hx y hy => by
    rw [List.map_append, List.map_cons, List.nodup_append] at hbn
    exact hbn.2.2 _ (List.mem_map.2 ⟨x, hx, rfl⟩) _ (by simp; exact .inr ⟨y, hy, rfl⟩)
  have keep : ∀ k, k ≠ M → k ≠ L → k ≠ a.b → ((((W.setCell ⟨a.b, 5, none⟩ (.pointer none)).setCell ⟨L, e.p * 3 + 1, none⟩ (ptr a.b)).setCell ⟨L, e.p * 3 + 2, none⟩ (.int .i64 nsz)).drewN q).heap[k]? = w.heap[k]? := fun k kM kL ka =>
    blk_oth _ (blk_oth _ (blk_oth _ (hW k kM) ka) kL) kL
  obtain ⟨l0, l1, l2⟩ := hZl e.p (h.pp e (by simp)).1
  rw [Nat.mul_comm, pt_erase_same] at l0 l1 l2
  refine h.erase (keep D mD dL (Ne.symm (mX a ha).2.2)) ⟨ms, cl, blk_oth _ (blk_oth _ (blk_oth _ hM1 (Ne.symm (mX a ha).1)) (Ne.symm mL)) (Ne.symm mL), hM2⟩ ⟨_, (blk_set _ (blk_set _ (blk_oth _ ((hW L mL).trans hZ) (Ne.symm (mX a ha).2.1)))), by simpa using hZs, fun p hp' => ?_⟩ (fun A0' a' A2' hs h1 h2 => ?_) (fun C1' c' C2' hs h1 h2 => ?_) (fun A0' x A2' hs hn => ?_) (fun C1' x C2' hs hn => ?_)
  · by_cases hpe : p = e.p
    · subst hpe
      rw [hC0] at l0 l1 l2
      rw [hp_append hne] at l0
      rw [pt_append, hC0, List.append_nil] at hsz
      have hsz' := hsz
      rw [Nat.mul_comm 3, pt_append, hC0, List.append_nil, hpa]
      exact ⟨set_get (set_get (l0) (by omega)) (by omega), set_get (set_same (l1)) (by omega), by rw [← hsz']; exact set_same (set_get (l2) (by omega))⟩
    · rw [← pt_erase_other (Ne.symm hpe)]
      obtain ⟨g0, g1, g2⟩ := hZl p hp'
      exact ⟨set_get (set_get (g0) (by omega)) (by omega), set_get (set_get (g1) (by omega)) (by omega), set_get (set_get (g2) (by omega)) (by omega)⟩
  · have h6 : lp (pt e.p A) = ptr a'.b := by rw [hs]; exact lp_last h1 h2
    rw [hpa] at h6
    have hxt := ptr_inj h6
    rw [hA] at haA hs
    obtain ⟨rfl, rfl, rfl⟩ := split_uniq haA hs hxt
    rw [hsc]
    have hen := h.en A0 a (A2 ++ e :: C) (by rw [hA]; simp)
    have h9 := blk_set (i := 5) (.pointer none) ((hW a.b (mX a ha).1).trans hen)
    rw [set5] at h9
    exact blk_oth _ (blk_oth _ h9 (mX a ha).2.1) (mX a ha).2.1
  · exact absurd h1 (pt_nil_mem hC0 c' (by rw [hs]; simp))
  · have hxA : x ∈ A := by rw [hs]; simp
    have hx : x ∈ A ++ e :: C := by simp [hxA]
    exact keep x.b (mX x hx).1 (mX x hx).2.1 (fun hxt => by
      rw [hA] at haA hs
      obtain ⟨rfl, rfl, rfl⟩ := split_uniq haA hs hxt.symm
      exact hn ⟨hap, hA2⟩)
  · have hxC : x ∈ C := by rw [hs]; simp
    have hx : x ∈ A ++ e :: C := by simp [hxC]
    exact keep x.b (mX x hx).1 (mX x hx).2.1 (Ne.symm (apart a (by rw [hA]; simp) x hxC))
theorem DA.taken_mid {w W : World} {D M L P : Nat} {hf : Value} {A C : List En} {e : En} (h : DA w D M L hf P (A ++ e :: C)) {A0 A2 : List En} {a : En} (hA : A = A0 ++ a :: A2) (hap : a.p = e.p) (hA2 : pt e.p A2 = []) {C1 C2 : List En} {c : En} (hC : C = C1 ++ c :: C2) (hcp : c.p = e.p) (hC1 : pt e.p C1 = [])
    (hM : ∃ ms c, W.heap[M]? = some (.map ms c) ∧ ms.toList.map (fun x => (x.key, x.val)) = (A ++ C).map (fun e => (kv e.k, ptr e.b))) (hW : ∀ k, k ≠ M → W.heap[k]? = w.heap[k]?) (q : Nat) (nsz : Int) (hsz : nsz = ((pt e.p (A ++ C)).length : Int)) :
    DA ((((W.setCell ⟨a.b, 5, none⟩ (ptr c.b)).setCell ⟨c.b, 4, none⟩ (ptr a.b)).setCell ⟨L, e.p * 3 + 2, none⟩ (.int .i64 nsz)).drewN q) D M L hf P (A ++ C) := by
  obtain ⟨Z, hZ, hZs, hZl⟩ := h.ln
  obtain ⟨ms0, c0, hM0, _⟩ := h.mp
  obtain ⟨ms, cl, hM1, hM2⟩ := hM
  have dL : D ≠ L := fun e' => by have := h.dc; rw [e', hZ] at this; cases this
  have mD : D ≠ M := fun e' => by have := h.dc; rw [e', hM0] at this; cases this
  have mL : L ≠ M := fun e' => by have := hZ; rw [e', hM0] at this; cases this
  have mX : ∀ x ∈ A ++ e :: C, x.b ≠ M ∧ x.b ≠ L ∧ x.b ≠ D := fun x hx => by
    obtain ⟨u, v, hx'⟩ := h.entry hx
    exact ⟨fun e' => by (rw [e', hM0] at hx'; cases hx'), fun e' => by (rw [e', hZ] at hx'; cases hx'), fun e' => by (rw [e', h.dc] at hx'; cases hx')⟩
  have hbn := h.bn
  have ha : a ∈ A ++ e :: C := by rw [hA]; simp
  have haA : (A.map En.b).Nodup := by rw [List.map_append, List.nodup_append] at hbn; exact hbn.1
  have hpa : lp (pt e.p A) = ptr a.b := by rw [hA]; exact lp_last hap hA2
  have hne : pt e.p A ≠ [] := by rw [hA]; exact pt_ne hap
  have hc : c ∈ A ++ e :: C := by rw [hC]; simp
  have hcC : (C.map En.b).Nodup := by rw [List.map_append, List.map_cons, List.nodup_append, List.nodup_cons] at hbn; exact hbn.2.1.2
  have hsc : hp (pt e.p C) = ptr c.b := by rw [hC]; exact hp_first hcp hC1
  have hnc : pt e.p C ≠ [] := by rw [hC]; exact pt_ne hcp
  have apart : ∀ x ∈ A, ∀ y ∈ C, x.b ≠ y.b := fun x hx y hy => by
    rw [List.map_append, List.map_cons, List.nodup_append] at hbn
    exact hbn.2.2 _ (List.mem_map.2 ⟨x, hx, rfl⟩) _ (by simp; exact .inr ⟨y, hy, rfl⟩)
  have keep : ∀ k, k ≠ M → k ≠ L → k ≠ a.b → k ≠ c.b → ((((W.setCell ⟨a.b, 5, none⟩ (ptr c.b)).setCell ⟨c.b, 4, none⟩ (ptr a.b)).setCell ⟨L, e.p * 3 + 2, none⟩ (.int .i64 nsz)).drewN q).heap[k]? = w.heap[k]? := fun k kM kL ka kc =>
    blk_oth _ (blk_oth _ (blk_oth _ (hW k kM) ka) kc) kL
  obtain ⟨l0, l1, l2⟩ := hZl e.p (h.pp e (by simp)).1
  rw [Nat.mul_comm, pt_erase_same] at l0 l1 l2
  refine h.erase (keep D mD dL (Ne.symm (mX a ha).2.2) (Ne.symm (mX c hc).2.2)) ⟨ms, cl, blk_oth _ (blk_oth _ (blk_oth _ hM1 (Ne.symm (mX a ha).1)) (Ne.symm (mX c hc).1)) (Ne.symm mL), hM2⟩ ⟨_, (blk_set _ (blk_oth _ (blk_oth _ ((hW L mL).trans hZ) (Ne.symm (mX a ha).2.1)) (Ne.symm (mX c hc).2.1))), by simpa using hZs, fun p hp' => ?_⟩ (fun A0' a' A2' hs h1 h2 => ?_) (fun C1' c' C2' hs h1 h2 => ?_) (fun A0' x A2' hs hn => ?_) (fun C1' x C2' hs hn => ?_)
  · by_cases hpe : p = e.p
    · subst hpe
      rw [hp_append hne] at l0
      rw [lp_append (by simp), show e :: pt e.p C = [e] ++ pt e.p C from rfl, lp_append hnc] at l1
      rw [pt_append] at hsz
      have hsz' := hsz
      rw [Nat.mul_comm 3, pt_append, hp_append hne, lp_append hnc]
      exact ⟨set_get (l0) (by omega), set_get (l1) (by omega), by rw [← hsz']; exact set_same (l2)⟩
    · rw [← pt_erase_other (Ne.symm hpe)]
      obtain ⟨g0, g1, g2⟩ := hZl p hp'
      exact ⟨set_get (g0) (by omega), set_get (g1) (by omega), set_get (g2) (by omega)⟩
  · have h6 : lp (pt e.p A) = ptr a'.b := by rw [hs]; exact lp_last h1 h2
    rw [hpa] at h6
    have hxt := ptr_inj h6
    rw [hA] at haA hs
    obtain ⟨rfl, rfl, rfl⟩ := split_uniq haA hs hxt
    rw [hsc]
    have hen := h.en A0 a (A2 ++ e :: C) (by rw [hA]; simp)
    have h9 := blk_set (i := 5) (ptr c.b) ((hW a.b (mX a ha).1).trans hen)
    rw [set5] at h9
    exact blk_oth _ (blk_oth _ h9 (apart a (by rw [hA]; simp) c (by rw [hC]; simp))) (mX a ha).2.1
  · have h6 : hp (pt e.p C) = ptr c'.b := by rw [hs]; exact hp_first h1 h2
    rw [hsc] at h6
    have hxt := ptr_inj h6
    rw [hC] at hcC hs
    obtain ⟨rfl, rfl, rfl⟩ := split_uniq hcC hs hxt
    rw [hpa]
    have hen := h.en (A ++ e :: C1) c C2 (by rw [hC]; simp)
    have h9 := blk_set (i := 4) (ptr a.b) (blk_oth (b := a.b) (i := 5) (ptr c.b) ((hW c.b (mX c hc).1).trans hen) (Ne.symm (apart a (by rw [hA]; simp) c (by rw [hC]; simp))))
    rw [set4] at h9
    exact blk_oth _ h9 (mX c hc).2.1
  · have hxA : x ∈ A := by rw [hs]; simp
    have hx : x ∈ A ++ e :: C := by simp [hxA]
    exact keep x.b (mX x hx).1 (mX x hx).2.1 (fun hxt => by
      rw [hA] at haA hs
      obtain ⟨rfl, rfl, rfl⟩ := split_uniq haA hs hxt.symm
      exact hn ⟨hap, hA2⟩) (apart x hxA c (by rw [hC]; simp))
  · have hxC : x ∈ C := by rw [hs]; simp
    have hx : x ∈ A ++ e :: C := by simp [hxC]
    exact keep x.b (mX x hx).1 (mX x hx).2.1 (Ne.symm (apart a (by rw [hA]; simp) x hxC)) (fun hxt => by
      rw [hC] at hcC hs
      obtain ⟨rfl, rfl, rfl⟩ := split_uniq hcC hs hxt.symm
      exact hn ⟨hcp, hC1⟩)
end Go.Proofs.YtbcmmeajglilbaaGreat
