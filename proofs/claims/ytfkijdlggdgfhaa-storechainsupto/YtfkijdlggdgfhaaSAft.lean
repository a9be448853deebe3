/-
  WHERE THE CHAIN HAS THE NEW VERSION AND THE DICTIONARY THE CHAIN.
-/
import Derived.Test.YtfkijdlggdgfhaaSIns
namespace Go.Proofs.Ytfkijdlggdgfhaa
open Go.RowKit Go.Sort

theorem ty_ne {a b : Array Value} {s t : TypeId} {p q : Nat × Nat} (h : some (Obj.cells a s p) = some (Obj.cells b t q)) (hn : s ≠ t) : False := by
  injection h with h
  injection h with _ h2 _
  exact hn h2
section
variable {w : World} {S V D M L P : Nat} {hf : Value} {cap last : Int} {vs : List Vr} {es : List En} {R : K → Nat × Nat × Nat}
/-- the dictionary's blocks are none of the others -/
theorem SA.dict_ne (h : SA w S V D M L P hf cap last vs es R) {k : Nat} (hk : k = D ∨ Ft M L es k) : (∀ e ∈ es, e.v ≠ k) ∧ (∀ e ∈ es, (R e.k).1 ≠ k) ∧ (∀ v ∈ vs, v.b ≠ k) ∧ S ≠ k ∧ V ≠ k := by
  have hs := h.st
  obtain ⟨vms, vcl, hv, _⟩ := h.vm
  rcases hk with rfl | rfl | rfl | ⟨e', he', rfl⟩
  · have hd := h.da.dc
    refine ⟨fun e he e1 => ?_, fun e he e1 => ?_, fun v hv' e1 => ?_, fun e1 => ?_, fun e1 => ?_⟩
    · have := h.ch e he; rw [e1, hd] at this; cases this
    · obtain ⟨_, this, _⟩ := h.rw e he; rw [e1, hd] at this; cases this
    · have := h.vb v hv'; rw [e1, hd] at this; cases this
    · rw [e1, hd] at hs; cases hs
    · rw [e1, hd] at hv; cases hv
  · obtain ⟨_, _, hd, _⟩ := h.da.mp
    refine ⟨fun e he e1 => ?_, fun e he e1 => ?_, fun v hv' e1 => ?_, fun e1 => ?_, h.VM⟩
    · have := h.ch e he; rw [e1, hd] at this; cases this
    · obtain ⟨_, this, _⟩ := h.rw e he; rw [e1, hd] at this; cases this
    · have := h.vb v hv'; rw [e1, hd] at this; cases this
    · rw [e1, hd] at hs; cases hs
  · obtain ⟨_, hd, _⟩ := h.da.ln
    refine ⟨fun e he e1 => ?_, fun e he e1 => ?_, fun v hv' e1 => ?_, fun e1 => ?_, fun e1 => ?_⟩
    · have := h.ch e he; rw [e1, hd] at this; cases this
    · obtain ⟨_, this, _⟩ := h.rw e he; rw [e1, hd] at this; cases this
    · have := h.vb v hv'; rw [e1, hd] at this; cases this
    · rw [e1, hd] at hs; cases hs
    · rw [e1, hd] at hv; cases hv
  · obtain ⟨_, _, hd⟩ := h.da.entry he'
    refine ⟨fun e he e1 => ?_, fun e he e1 => ?_, fun v hv' e1 => ?_, fun e1 => ?_, fun e1 => ?_⟩
    · have := h.ch e he; rw [e1, hd] at this; exact ty_ne this (by decide)
    · obtain ⟨_, this, _⟩ := h.rw e he; rw [e1, hd] at this; exact ty_ne this (by decide)
    · have := h.vb v hv'; rw [e1, hd] at this; exact ty_ne this (by decide)
    · rw [e1, hd] at hs; exact ty_ne hs (by decide)
    · rw [e1, hd] at hv; cases hv
/-- the others are apart -/
theorem SA.oth_ne (h : SA w S V D M L P hf cap last vs es R) {e : En} (he : e ∈ es) : (S ≠ e.v ∧ V ≠ e.v ∧ (∀ v ∈ vs, v.b ≠ e.v)) ∧ (S ≠ (R e.k).1 ∧ V ≠ (R e.k).1 ∧ (∀ v ∈ vs, v.b ≠ (R e.k).1)) ∧ (∀ e' ∈ es, e'.v ≠ (R e.k).1) := by
  have hs := h.st
  obtain ⟨vms, vcl, hv, _⟩ := h.vm
  have hc := h.ch e he
  obtain ⟨cur, hr, _⟩ := h.rw e he
  refine ⟨⟨fun e1 => ?_, fun e1 => ?_, fun v hv' e1 => ?_⟩, ⟨fun e1 => ?_, fun e1 => ?_, fun v hv' e1 => ?_⟩, fun e' he' e1 => ?_⟩
  · rw [e1, hc] at hs; cases hs
  · rw [e1, hc] at hv; cases hv
  · have := h.vb v hv'; rw [e1, hc] at this; cases this
  · rw [e1, hr] at hs; cases hs
  · rw [e1, hr] at hv; cases hv
  · have := h.vb v hv'; rw [e1, hr] at this; cases this
  · have := h.ch e' he'; rw [e1, hr] at this; cases this
theorem SA.sv_ne (h : SA w S V D M L P hf cap last vs es R) : S ≠ V ∧ ∀ v ∈ vs, v.b ≠ S ∧ v.b ≠ V := by
  have hs := h.st
  obtain ⟨vms, vcl, hv, _⟩ := h.vm
  refine ⟨fun e1 => ?_, fun v hv' => ⟨fun e1 => ?_, fun e1 => ?_⟩⟩
  · rw [e1, hv] at hs; cases hs
  · have := h.vb v hv'; rw [e1, hs] at this; exact ty_ne this (by decide)
  · have := h.vb v hv'; rw [e1, hv] at this; cases this
end
/-- what stands behind Put -/
structure Aft (w W : World) (S V D M L P : Nat) (hf : Value) (vs : List Vr) (es es' : List En) (R : K → Nat × Nat × Nat) (x : Vr) (e1 : En) (g off cc : Nat) : Prop where
  da : DA W D M L hf P es'
  he1 : e1 ∈ es'
  hk1 : e1.k = x.k
  hc1 : W.heap[e1.v]? = some (.cells #[.slice (some ⟨g, off, none⟩) ((ofK x.k vs).length + 1) cc] 100 (0, 0))
  hrow : RwV W g off cc ((ofK x.k vs).map Vr.b ++ [x.b])
  hold : ∀ e ∈ es', e.k ≠ x.k → e ∈ es ∧ W.heap[e.v]? = w.heap[e.v]? ∧ W.heap[(R e.k).1]? = w.heap[(R e.k).1]? ∧ (R e.k).1 ≠ g
  hsub : ∀ e ∈ es, ∃ e' ∈ es', e'.k = e.k
  cb : (es'.map En.v).Nodup
  st : W.heap[S]? = w.heap[S]?
  vm : W.heap[V]? = w.heap[V]?
  vb : ∀ v ∈ vs, W.heap[v.b]? = w.heap[v.b]?
  xb : W.heap[x.b]? = some (.cells (cellsV x) 82 (0, 0))
  fr : Fr (Fs S V D M L vs es R) w W
  el : es'.length ≤ es.length + 1
  nw : (∀ e ∈ es', e ∈ es ∨ (w.heap.size ≤ e.b ∧ w.heap.size ≤ e.v)) ∧ (w.heap.size ≤ g ∨ (g = (R x.k).1 ∧ ∃ e ∈ es, e.k = x.k))
  ph : ∀ e ∈ es', e.p = hash e.k % P
theorem ud_same {es : List En} (hk : (es.map En.k).Nodup) {k : K} {e0 : En} (h : fd es k = some e0) : es.map (ud k e0.v) = es := by
  have : ∀ e ∈ es, ud k e0.v e = e := fun e he => by
    unfold ud
    split
    · next hek =>
      have := fd_of hk he
      rw [hek, h] at this
      cases this
      rfl
    · rfl
  exact (List.map_congr_left this).trans (List.map_id' _)
/-- a key that has a chain -/
theorem SA.aft_old {w w2 w3 w4 : World} {S V D M L P : Nat} {hf : Value} {cap last : Int} {vs : List Vr} {es : List En} {R : K → Nat × Nat × Nat} (h : SA w S V D M L P hf cap last vs es R) (x : Vr) (hx : w.heap[x.b]? = some (.cells (cellsV x) 82 (0, 0))) (hxb : ∀ k, Fs S V D M L vs es R k → x.b ≠ k) {e0 : En} (hf0 : fd es x.k = some e0) (h2 : Below w.heap.size w w2) {g off cc : Nat}
    (ha : Add w2 w3 e0.v x.b (some ⟨(R x.k).1, (R x.k).2.1, none⟩) ((ofK x.k vs).map Vr.b) g off cc) (hd : DA w4 D M L hf P (es.map (ud x.k e0.v))) (hp : Fr (Ft M L es) w3 w4) : Aft w w4 S V D M L P hf vs es es R x e0 g off cc := by
  obtain ⟨he0, hk0⟩ := fd_some hf0
  rw [ud_same h.da.kn hf0] at hd
  have z2 := h2.size
  have z3 := ha.fr.size
  have hb3 : ∀ k, k < w.heap.size → k ≠ e0.v → k ≠ (R x.k).1 → ¬ Ft M L es k → w4.heap[k]? = w.heap[k]? := fun k hk n1 n2 n3 => by
    refine (hp.block k (by omega) n3).trans ((ha.fr.block k (by omega) (fun e => ?_)).trans (h2.block k hk))
    rcases e with e | e
    · exact n1 e
    · simp at e
      exact n2 e.symm
  have hR0 : (R x.k).1 = (R e0.k).1 := by rw [hk0]
  have hov : Fs S V D M L vs es R e0.v := .inr (.inr (.inr (.inr (.inl ⟨e0, he0, rfl⟩))))
  have hor : Fs S V D M L vs es R (R x.k).1 := .inr (.inr (.inr (.inr (.inr ⟨e0, he0, hR0.symm⟩))))
  have hft : ∀ k, Ft M L es k → Fs S V D M L vs es R k := fun k hk => .inr (.inr (.inr (.inl (.inr hk))))
  obtain ⟨⟨o1, o2, o3⟩, ⟨o4, o5, o6⟩, o7⟩ := h.oth_ne he0
  have hnF : ∀ {k}, Ft M L es k → (∀ e ∈ es, e.v ≠ k) ∧ (∀ e ∈ es, (R e.k).1 ≠ k) ∧ (∀ v ∈ vs, v.b ≠ k) ∧ S ≠ k ∧ V ≠ k := fun hk => h.dict_ne (.inr hk)
  have hgn : g = (R x.k).1 ∨ w2.heap.size ≤ g := by
    rcases ha.wh with e | e
    · left; simpa using e.symm
    · exact .inr e
  have keep4 : ∀ k, k < w3.heap.size → (∀ k', Ft M L es k' → k ≠ k') → w4.heap[k]? = w3.heap[k]? := fun k hk hn => hp.block k hk (fun hF => hn k hF rfl)
  refine ⟨hd, he0, hk0, ?_, ha.rw.same ?_, fun e he hne => ⟨he, ?_, ?_, ?_⟩, fun e he => ⟨e, he, rfl⟩, h.cb, ?_, ?_, fun v hv => ?_, ?_, ?_, by omega, ⟨fun e he => .inl he, hgn.elim (fun e => .inr ⟨e, e0, he0, hk0⟩) (fun e => .inl (by omega))⟩, h.ph⟩
  · have := ha.bx
    rw [List.length_map] at this
    exact (keep4 _ (blk_lt this) (fun k' hF e => (hnF hF).1 e0 he0 e)).trans this
  · obtain ⟨⟨cur, k1, _⟩, _⟩ := ha.rw
    refine keep4 g (blk_lt k1) (fun k' hF e => ?_)
    rcases hgn with e2 | e2
    · exact (hnF hF).2.1 e0 he0 (by rw [← hR0, ← e2]; exact e)
    · have := h.lt' (hft k' hF)
      omega
  · refine hb3 _ (blk_lt (h.ch e he)) (fun e2 => ?_) (fun e2 => o7 e he (by rw [← hR0]; exact e2)) (fun hF => (hnF hF).1 e he rfl)
    have a := h.cb
    obtain ⟨A, C, rfl⟩ := List.append_of_mem he
    have hs := nodup_split a
    rcases List.mem_append.1 he0 with m | m
    · exact hs.1 e0 m e2.symm
    · rcases List.mem_cons.1 m with rfl | m
      · exact hne hk0
      · exact hs.2 e0 m e2.symm
  · obtain ⟨_, k1, _⟩ := h.rw e he
    exact hb3 _ (blk_lt k1) (fun e2 => (h.oth_ne he).2.2 e0 he0 e2.symm) (fun e2 => hne (by rw [h.rn e he e0 he0 (by rw [e2, hR0])]; exact hk0)) (fun hF => (hnF hF).2.1 e he rfl)
  · intro e2
    rcases hgn with e3 | e3
    · exact hne (by rw [h.rn e he e0 he0 (by rw [e2, e3, hR0])]; exact hk0)
    · obtain ⟨_, k1, _⟩ := h.rw e he
      have := blk_lt k1
      omega
  · exact hb3 S (blk_lt h.st) o1 (by rw [hR0]; exact o4) (fun hF => (hnF hF).2.2.2.1 rfl)
  · obtain ⟨_, _, k1, _⟩ := h.vm
    exact hb3 V (blk_lt k1) o2 (by rw [hR0]; exact o5) (fun hF => (hnF hF).2.2.2.2 rfl)
  · exact hb3 v.b (blk_lt (h.vb v hv)) (o3 v hv) (by rw [hR0]; exact o6 v hv) (fun hF => (hnF hF).2.2.1 v hv rfl)
  · exact (hb3 x.b (blk_lt hx) (hxb _ hov) (hxb _ hor) (fun hF => hxb _ (hft _ hF) rfl)).trans hx
  · have z4 := hp.size
    exact ⟨hp.os.trans (ha.fr.os.trans h2.os), hp.tape.trans (ha.fr.tape.trans h2.tape), hp.output.trans (ha.fr.output.trans h2.output), by omega, fun k hk hn => hb3 k hk (fun e => hn (e ▸ hov)) (fun e => hn (e ▸ hor)) (fun hF => hn (hft k hF))⟩
end Go.Proofs.Ytfkijdlggdgfhaa
