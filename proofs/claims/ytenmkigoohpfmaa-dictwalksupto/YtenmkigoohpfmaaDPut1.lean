/-
  WHAT add LEAVES.
-/
import Derived.Test.YtenmkigoohpfmaaDPut0
namespace Go.Proofs.Ytenmkigoohpfmaa
open Go.RowKit Go.Sort

theorem pt_snoc_same (es : List En) (e : En) : pt e.p (es ++ [e]) = pt e.p es ++ [e] := by rw [pt_append, pt_cons_same rfl]; rfl
theorem pt_snoc_other {p : Nat} (es : List En) {e : En} (h : e.p ≠ p) : pt p (es ++ [e]) = pt p es := by rw [pt_append, pt_cons_other h]; simp [pt]
theorem pt_nil_mem {p : Nat} {es : List En} (h : pt p es = []) : ∀ x ∈ es, x.p ≠ p := fun x hx e => by
  have : x ∈ pt p es := pt_mem.2 ⟨hx, e⟩
  rw [h] at this; cases this

/-- where W has the map's new entry already -/
theorem DA.added1 {w W : World} {D M L P : Nat} {hf : Value} {es : List En} (h : DA w D M L hf P es) (e : En) (he : e.p < P ∧ KIn e.k ∧ In64 e.v) (hk : fd es e.k = none) (hb : ∀ k, (k = D ∨ Ft M L es k) → k ≠ e.b)
    (hM : ∃ ms c, W.heap[M]? = some (.map ms c) ∧ ms.toList.map (fun x => (x.key, x.val)) = (es ++ [e]).map (fun e => (kv e.k, ptr e.b))) (hW : ∀ k, k ≠ M → W.heap[k]? = w.heap[k]?)
    (hE : w.heap[e.b]? = some (.cells (cellsE e (.pointer none) (.pointer none)) TE (0, 0))) (h0 : pt e.p es = []) :
    DA ((((W.setCell ⟨e.b, 4, none⟩ (.pointer none)).setCell ⟨L, e.p * 3, none⟩ (ptr e.b)).setCell ⟨L, e.p * 3 + 1, none⟩ (ptr e.b)).setCell ⟨L, e.p * 3 + 2, none⟩ (.int .i64 (((pt e.p es).length : Int) + 1))) D M L hf P (es ++ [e]) := by
  have nD := hb D (.inl rfl)
  have nM := hb M (.inr (.inl rfl))
  have nL := hb L (.inr (.inr (.inl rfl)))
  have nX : ∀ x ∈ es, x.b ≠ e.b := fun x hx => hb _ (.inr (.inr (.inr ⟨x, hx, rfl⟩)))
  obtain ⟨C, hC, hCs, hCl⟩ := h.ln
  have dL : D ≠ L := fun e' => by have := h.dc; rw [e', hC] at this; cases this
  obtain ⟨ms, c, hM1, hM2⟩ := hM
  obtain ⟨ms0, c0, hM0, _⟩ := h.mp
  have mD : D ≠ M := fun e' => by have := h.dc; rw [e', hM0] at this; cases this
  have mL : L ≠ M := fun e' => by have := hC; rw [e', hM0] at this; cases this
  have mX : ∀ x ∈ es, x.b ≠ M ∧ x.b ≠ L := fun x hx => by
    obtain ⟨a, b, hx'⟩ := h.entry hx
    exact ⟨fun e' => by (rw [e', hM0] at hx'; cases hx'), fun e' => by (rw [e', hC] at hx'; cases hx')⟩
  have eM : e.b ≠ M := Ne.symm nM
  have eL : e.b ≠ L := Ne.symm nL
  have keep : ∀ k, k ≠ e.b → k ≠ L → k ≠ M → ((((W.setCell ⟨e.b, 4, none⟩ (.pointer none)).setCell ⟨L, e.p * 3, none⟩ (ptr e.b)).setCell ⟨L, e.p * 3 + 1, none⟩ (ptr e.b)).setCell ⟨L, e.p * 3 + 2, none⟩ (.int .i64 (((pt e.p es).length : Int) + 1))).heap[k]? = w.heap[k]? := fun k h1 h2 h3 =>
    blk_oth _ (blk_oth _ (blk_oth _ (blk_oth _ (hW k h3) h1) h2) h2) h2
  obtain ⟨l0, l1, l2⟩ := hCl e.p he.1
  rw [Nat.mul_comm] at l0 l1 l2
  refine h.snoc e he hk nX (keep D nD dL mD) ⟨ms, c, blk_oth _ (blk_oth _ (blk_oth _ (blk_oth _ hM1 nM) (Ne.symm mL)) (Ne.symm mL)) (Ne.symm mL), hM2⟩ ⟨_, blk_set _ (blk_set _ (blk_set _ (blk_oth _ ((hW L mL).trans hC) nL))), by simpa using hCs, fun p hp' => ?_⟩ ?_ (fun A t C' hs h1 _ => ?_) (fun A x C' hs _ => ?_)
  · by_cases hpe : p = e.p
    · subst hpe
      rw [Nat.mul_comm 3, pt_snoc_same, h0]
      refine ⟨?_, ?_, ?_⟩
      · exact set_get (set_get (set_same l0) (by omega)) (by omega)
      · exact set_get (set_same (set_get l1 (by omega))) (by omega)
      · exact set_same (set_get (set_get l2 (by omega)) (by omega))
    · rw [pt_snoc_other es (Ne.symm hpe)]
      obtain ⟨g0, g1, g2⟩ := hCl p hp'
      exact ⟨set_get (set_get (set_get g0 (by omega)) (by omega)) (by omega), set_get (set_get (set_get g1 (by omega)) (by omega)) (by omega), set_get (set_get (set_get g2 (by omega)) (by omega)) (by omega)⟩
  · rw [h0]
    exact blk_oth _ (blk_oth _ (blk_oth _ (blk_set _ ((hW e.b eM).trans hE)) eL) eL) eL
  · exact absurd h1 (pt_nil_mem h0 t (by rw [hs]; simp))
  · have hx : x ∈ es := by rw [hs]; simp
    exact keep x.b (nX x hx) (mX x hx).2 (mX x hx).1
theorem DA.added2 {w W : World} {D M L P : Nat} {hf : Value} {es : List En} (h : DA w D M L hf P es) (e : En) (he : e.p < P ∧ KIn e.k ∧ In64 e.v) (hk : fd es e.k = none) (hb : ∀ k, (k = D ∨ Ft M L es k) → k ≠ e.b)
    (hM : ∃ ms c, W.heap[M]? = some (.map ms c) ∧ ms.toList.map (fun x => (x.key, x.val)) = (es ++ [e]).map (fun e => (kv e.k, ptr e.b))) (hW : ∀ k, k ≠ M → W.heap[k]? = w.heap[k]?)
    (hE : w.heap[e.b]? = some (.cells (cellsE e (.pointer none) (.pointer none)) TE (0, 0))) {A0 C0 : List En} {t : En} (h0 : es = A0 ++ t :: C0) (htp : t.p = e.p) (hC0 : pt e.p C0 = []) :
    DA ((((W.setCell ⟨e.b, 4, none⟩ (ptr t.b)).setCell ⟨t.b, 5, none⟩ (ptr e.b)).setCell ⟨L, e.p * 3 + 1, none⟩ (ptr e.b)).setCell ⟨L, e.p * 3 + 2, none⟩ (.int .i64 (((pt e.p es).length : Int) + 1))) D M L hf P (es ++ [e]) := by
  have nD := hb D (.inl rfl)
  have nM := hb M (.inr (.inl rfl))
  have nL := hb L (.inr (.inr (.inl rfl)))
  have nX : ∀ x ∈ es, x.b ≠ e.b := fun x hx => hb _ (.inr (.inr (.inr ⟨x, hx, rfl⟩)))
  have ht : t ∈ es := by rw [h0]; simp
  obtain ⟨C, hC, hCs, hCl⟩ := h.ln
  have dL : D ≠ L := fun e' => by have := h.dc; rw [e', hC] at this; cases this
  obtain ⟨ms, c, hM1, hM2⟩ := hM
  obtain ⟨ms0, c0, hM0, _⟩ := h.mp
  have mD : D ≠ M := fun e' => by have := h.dc; rw [e', hM0] at this; cases this
  have mL : L ≠ M := fun e' => by have := hC; rw [e', hM0] at this; cases this
  have mX : ∀ x ∈ es, x.b ≠ M ∧ x.b ≠ L ∧ x.b ≠ D := fun x hx => by
    obtain ⟨a, b, hx'⟩ := h.entry hx
    exact ⟨fun e' => by (rw [e', hM0] at hx'; cases hx'), fun e' => by (rw [e', hC] at hx'; cases hx'), fun e' => by (rw [e', h.dc] at hx'; cases hx')⟩
  have eM : e.b ≠ M := Ne.symm nM
  have eL : e.b ≠ L := Ne.symm nL
  have tE : t.b ≠ e.b := nX t ht
  have keep : ∀ k, k ≠ e.b → k ≠ t.b → k ≠ L → k ≠ M → ((((W.setCell ⟨e.b, 4, none⟩ (ptr t.b)).setCell ⟨t.b, 5, none⟩ (ptr e.b)).setCell ⟨L, e.p * 3 + 1, none⟩ (ptr e.b)).setCell ⟨L, e.p * 3 + 2, none⟩ (.int .i64 (((pt e.p es).length : Int) + 1))).heap[k]? = w.heap[k]? := fun k h1 h4 h2 h3 =>
    blk_oth _ (blk_oth _ (blk_oth _ (blk_oth _ (hW k h3) h1) h4) h2) h2
  obtain ⟨l0, l1, l2⟩ := hCl e.p he.1
  rw [Nat.mul_comm] at l0 l1 l2
  have hne : pt e.p es ≠ [] := by rw [h0]; exact pt_ne htp
  refine h.snoc e he hk nX (keep D nD (Ne.symm (mX t ht).2.2) dL mD) ⟨ms, c, blk_oth _ (blk_oth _ (blk_oth _ (blk_oth _ hM1 nM) (Ne.symm (mX t ht).1)) (Ne.symm mL)) (Ne.symm mL), hM2⟩ ⟨_, blk_set _ (blk_set _ (blk_oth _ (blk_oth _ ((hW L mL).trans hC) nL) (Ne.symm (mX t ht).2.1))), by simpa using hCs, fun p hp' => ?_⟩ ?_ (fun A x C' hs h1 h2 => ?_) (fun A x C' hs hn => ?_)
  · by_cases hpe : p = e.p
    · subst hpe
      rw [Nat.mul_comm 3, pt_snoc_same, hp_append hne, lp_snoc]
      refine ⟨?_, ?_, ?_⟩
      · exact set_get (set_get l0 (by omega)) (by omega)
      · exact set_get (set_same l1) (by omega)
      · rw [List.length_append]
        exact set_same (set_get l2 (by omega))
    · rw [pt_snoc_other es (Ne.symm hpe)]
      obtain ⟨g0, g1, g2⟩ := hCl p hp'
      exact ⟨set_get (set_get g0 (by omega)) (by omega), set_get (set_get g1 (by omega)) (by omega), set_get (set_get g2 (by omega)) (by omega)⟩
  · have h5 : lp (pt e.p es) = ptr t.b := by rw [h0]; exact lp_last htp hC0
    rw [h5]
    exact blk_oth _ (blk_oth _ (blk_oth _ (blk_set _ ((hW e.b eM).trans hE)) (Ne.symm tE)) eL) eL
  · have h6 : lp (pt e.p es) = ptr x.b := by rw [hs]; exact lp_last h1 h2
    have h7 : lp (pt e.p es) = ptr t.b := by rw [h0]; exact lp_last htp hC0
    rw [h6] at h7
    have hxt : t.b = x.b := by injection h7 with h8; injection h8 with h9; injection h9 with h10; exact h10.symm
    have hbn := h.bn
    rw [h0] at hbn hs
    obtain ⟨rfl, rfl, rfl⟩ := split_uniq hbn hs hxt
    exact blk_oth _ (blk_oth _ (blk_set _ (blk_oth _ ((hW t.b (mX t ht).1).trans (h.en A0 t C0 h0)) tE)) (mX t ht).2.1) (mX t ht).2.1
  · have hx : x ∈ es := by rw [hs]; simp
    refine keep x.b (nX x hx) (fun hxt => ?_) (mX x hx).2.1 (mX x hx).1
    have hbn := h.bn
    rw [h0] at hbn hs
    obtain ⟨rfl, rfl, rfl⟩ := split_uniq hbn hs hxt.symm
    exact hn ⟨htp, hC0⟩
end Go.Proofs.Ytenmkigoohpfmaa
