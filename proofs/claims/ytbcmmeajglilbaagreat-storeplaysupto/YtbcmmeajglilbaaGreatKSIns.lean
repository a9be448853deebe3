import Derived.Test.YtbcmmeajglilbaaGreatKSLook
import Derived.Deep.RegionHeld3
/-
  WHAT Insert LEAVES.
-/
namespace Go.Proofs.YtbcmmeajglilbaaGreat
open Go.RowKit Go.Sort

theorem ofK_same (x : Vr) (vs : List Vr) : ofK x.k (vs ++ [x]) = ofK x.k vs ++ [x] := by simp [ofK]
theorem ofK_other {k : K} {x : Vr} (h : k ≠ x.k) (vs : List Vr) : ofK k (vs ++ [x]) = ofK k vs := by
  have : ¬ x.k = k := fun e => h e.symm
  simp [ofK, this]
theorem later_trans {a b c : Vr} (h1 : later a b) (h2 : later b c) : later a c := by unfold later at *; omega
theorem insE_ok {cap : Int} {vs : List Vr} {x : Vr} (h : insE cap vs x = 0) : isKey x.k = true ∧ 1 ≤ x.ba ∧ x.ba ≤ 1099511627776 ∧ 0 ≤ x.ix ∧ x.ix ≤ 63 ∧ cap ≠ (vs.length : Int) ∧ ∀ ys y, ofK x.k vs = ys ++ [y] → later x y := by
  unfold insE at h
  by_cases h1 : isKey x.k = false
  · rw [if_pos h1] at h; cases h
  rw [if_neg h1] at h
  by_cases h2 : x.ba < 1 ∨ 1099511627776 < x.ba
  · rw [if_pos h2] at h; cases h
  rw [if_neg h2] at h
  by_cases h3 : x.ix < 0 ∨ 64 ≤ x.ix
  · rw [if_pos h3] at h; cases h
  rw [if_neg h3] at h
  by_cases h4 : cap = (vs.length : Int)
  · rw [if_pos h4] at h; cases h
  rw [if_neg h4] at h
  refine ⟨by simpa using h1, by omega, by omega, by omega, by omega, h4, fun ys y e => ?_⟩
  rw [e] at h
  simp at h
  exact h
theorem SA.ins {w W' : World} {S V D M L P : Nat} {hf : Value} {cap last : Int} {vs : List Vr} {es es' : List En} {R : K → Nat × Nat × Nat} (h : SA w S V D M L P hf cap last vs es R) (x : Vr) (hxn : x.n = last + 1) (hin : KIn x.k ∧ In64 x.ba ∧ In64 x.ix ∧ In64 x.cv) (hE : insE cap vs x = 0) (hl0 : 0 ≤ last ∧ last + 1 ≤ 1000000000000000) (g off cc : Nat)
    (st' : W'.heap[S]? = some (.cells #[.int .i64 (P : Int), .int .i64 cap, .int .i64 (last + 1), .map (some V), ptr D] 61 (0, 0)))
    (vm' : ∃ ms clock, W'.heap[V]? = some (.map ms clock) ∧ ms.toList.map (fun x => (x.key, x.val)) = (vs ++ [x]).map (fun v => (.int .i64 v.n, ptr v.b)))
    (vb' : ∀ v ∈ vs ++ [x], W'.heap[v.b]? = some (.cells (cellsV v) 102 (0, 0))) (da' : DA W' D M L hf P es')
    (e1 : En) (he1 : e1 ∈ es') (hk1 : e1.k = x.k) (hc1 : W'.heap[e1.v]? = some (.cells #[.slice (some ⟨g, off, none⟩) ((ofK x.k vs).length + 1) cc] 117 (0, 0)))
    (hrow : RwV W' g off cc ((ofK x.k vs).map Vr.b ++ [x.b]))
    (hold : ∀ e ∈ es', e.k ≠ x.k → e ∈ es ∧ W'.heap[e.v]? = w.heap[e.v]? ∧ W'.heap[(R e.k).1]? = w.heap[(R e.k).1]? ∧ (R e.k).1 ≠ g)
    (hsub : ∀ e ∈ es, ∃ e' ∈ es', e'.k = e.k) (cb' : (es'.map En.v).Nodup) (hb : ∀ v ∈ vs, v.b ≠ x.b) (hel : es'.length ≤ vs.length + 1) (hph : ∀ e ∈ es', e.p = hash e.k % P) :
    SA W' S V D M L P hf cap (last + 1) (vs ++ [x]) es' (fun k => if k = x.k then (g, off, cc) else R k) := by
  obtain ⟨_, _, _, _, _, hcap, hlt⟩ := insE_ok hE
  have huniq : ∀ e ∈ es', e.k = x.k → e = e1 := fun e he hk => by
    have a := fd_of da'.kn he
    have b := fd_of da'.kn he1
    rw [hk, ← hk1, b] at a
    exact (Option.some.inj a).symm
  refine ⟨st', vm', vb', da', fun e he => ?_, fun e he => ?_, fun e he => ?_, fun e he => ?_, fun v hv => ?_, cb', fun e he e' he' heq => ?_, ?_, fun v hv => ?_, ?_, fun k => ?_, fun v hv => ?_, h.VM, ?_, by simpa using hel, fun e he => ?_, hph, fun v hv => ?_⟩
  · by_cases hk : e.k = x.k
    · rw [huniq e he hk, hk1, if_pos rfl, ofK_same, List.length_append]
      exact hc1
    · rw [if_neg hk, ofK_other hk]
      obtain ⟨h1, h2, _⟩ := hold e he hk
      exact h2.trans (h.ch e h1)
  · by_cases hk : e.k = x.k
    · rw [hk, if_pos rfl, ofK_same]
      have e9 : (ofK x.k vs).map Vr.b ++ [x.b] = (ofK x.k vs ++ [x]).map Vr.b := by simp
      rw [e9] at hrow
      obtain ⟨⟨cur, k1, k2, k3⟩, _⟩ := hrow
      refine ⟨cur, k1, k2, fun j hj => ?_⟩
      rw [k3 j (by rw [List.length_map]; exact hj), List.getElem_map]
    · rw [if_neg hk, ofK_other hk]
      obtain ⟨h1, _, h3, _⟩ := hold e he hk
      obtain ⟨cur, k1, k2⟩ := h.rw e h1
      exact ⟨cur, h3.trans k1, k2⟩
  · by_cases hk : e.k = x.k
    · rw [hk, if_pos rfl, ofK_same]
      have := hrow.le
      simpa using this
    · rw [if_neg hk, ofK_other hk]
      exact h.rl e (hold e he hk).1
  · by_cases hk : e.k = x.k
    · rw [hk, ofK_same]; simp
    · rw [ofK_other hk]
      exact h.ne e (hold e he hk).1
  · rcases List.mem_append.1 hv with hv | hv
    · obtain ⟨e, he, hek⟩ := h.all v hv
      obtain ⟨e', he', hek'⟩ := hsub e he
      exact ⟨e', he', hek'.trans hek⟩
    · simp at hv
      subst hv
      exact ⟨e1, he1, hk1⟩
  · by_cases hk : e.k = x.k
    · by_cases hk' : e'.k = x.k
      · rw [huniq e he hk, huniq e' he' hk']
      · rw [if_pos hk, if_neg hk'] at heq
        exact absurd heq.symm (hold e' he' hk').2.2.2
    · by_cases hk' : e'.k = x.k
      · rw [if_neg hk, if_pos hk'] at heq
        exact absurd heq (hold e he hk).2.2.2
      · rw [if_neg hk, if_neg hk'] at heq
        exact h.rn e (hold e he hk).1 e' (hold e' he' hk').1 heq
  · refine List.pairwise_append.2 ⟨h.nn, List.pairwise_singleton _ _, fun a ha b hb => ?_⟩
    simp at hb
    subst hb
    have := (h.nl a ha).2
    omega
  · rcases List.mem_append.1 hv with hv | hv
    · have := h.nl v hv; omega
    · simp at hv; subst hv; omega
  · rw [List.map_append, List.nodup_append]
    refine ⟨h.bn, by simp, fun a ha c hc => ?_⟩
    obtain ⟨v, hv, rfl⟩ := List.mem_map.1 ha
    simp at hc
    subst hc
    exact hb v hv
  · by_cases hk : k = x.k
    · subst hk
      rw [ofK_same]
      refine List.pairwise_append.2 ⟨h.pl x.k, List.pairwise_singleton _ _, fun a ha c hc => ?_⟩
      simp at hc
      subst hc
      obtain ⟨ys, y, hys⟩ := snoc_of (List.ne_nil_of_mem ha)
      have hy := hlt ys y hys
      have hp := h.pl c.k
      rw [hys] at ha hp
      rcases List.mem_append.1 ha with ha | ha
      · exact later_trans hy ((List.pairwise_append.1 hp).2.2 a ha y (by simp))
      · simp at ha; subst ha; exact hy
    · rw [ofK_other hk]; exact h.pl k
  · rcases List.mem_append.1 hv with hv | hv
    · exact h.inn v hv
    · simp at hv; subst hv; exact hin
  · have := h.lt
    rw [List.length_append, List.length_singleton]
    push_cast
    omega
  · by_cases hk : e.k = x.k
    · rw [if_pos hk]
      exact hrow.cm
    · rw [if_neg hk]
      exact h.cm e (hold e he hk).1
  · rcases List.mem_append.1 hv with hv | hv
    · exact h.ik v hv
    · simp at hv; subst hv; exact (insE_ok hE).1
end Go.Proofs.YtbcmmeajglilbaaGreat
/-
  WHERE THE CHAIN HAS THE NEW VERSION AND THE DICTIONARY THE CHAIN.
-/
namespace Go.Proofs.YtbcmmeajglilbaaGreat
open Go.RowKit Go.Sort

theorem ty_ne {a b : Array Value} {s t : TypeId} {p q : Nat × Nat} (h : some (Obj.cells a s p) = some (Obj.cells b t q)) (hn : s ≠ t) : False := by
  injection h with h
  injection h with _ h2 _
  exact hn h2
section
variable {w : World} {S V D M L P : Nat} {hf : Value} {cap last : Int} {vs : List Vr} {es : List En} {R : K → Nat × Nat × Nat}
/-- the dictionary's blocks are none of the others -/
theorem SA.dict_ne (h : SA w S V D M L P hf cap last vs es R) {k : Nat} (hk : k = D ∨ Ft M L es k) : (∀ e ∈ es, e.v ≠ k) ∧ (∀ e ∈ es, (R e.k).1 ≠ k) ∧ (∀ v ∈ vs, v.b ≠ k) ∧ S ≠ k ∧ V ≠ k := by
  have hs := h.st
  obtain ⟨vms, vcl, hv, _⟩ := h.vm
  rcases hk with rfl | rfl | rfl | ⟨e', he', rfl⟩
  · have hd := h.da.dc
    refine ⟨fun e he e1 => ?_, fun e he e1 => ?_, fun v hv' e1 => ?_, fun e1 => ?_, fun e1 => ?_⟩
    · have := h.ch e he; rw [e1, hd] at this; cases this
    · obtain ⟨_, this, _⟩ := h.rw e he; rw [e1, hd] at this; cases this
    · have := h.vb v hv'; rw [e1, hd] at this; cases this
    · rw [e1, hd] at hs; cases hs
    · rw [e1, hd] at hv; cases hv
  · obtain ⟨_, _, hd, _⟩ := h.da.mp
    refine ⟨fun e he e1 => ?_, fun e he e1 => ?_, fun v hv' e1 => ?_, fun e1 => ?_, h.VM⟩
    · have := h.ch e he; rw [e1, hd] at this; cases this
    · obtain ⟨_, this, _⟩ := h.rw e he; rw [e1, hd] at this; cases this
    · have := h.vb v hv'; rw [e1, hd] at this; cases this
    · rw [e1, hd] at hs; cases hs
  · obtain ⟨_, hd, _⟩ := h.da.ln
    refine ⟨fun e he e1 => ?_, fun e he e1 => ?_, fun v hv' e1 => ?_, fun e1 => ?_, fun e1 => ?_⟩
    · have := h.ch e he; rw [e1, hd] at this; cases this
    · obtain ⟨_, this, _⟩ := h.rw e he; rw [e1, hd] at this; cases this
    · have := h.vb v hv'; rw [e1, hd] at this; cases this
    · rw [e1, hd] at hs; cases hs
    · rw [e1, hd] at hv; cases hv
  · obtain ⟨_, _, hd⟩ := h.da.entry he'
    refine ⟨fun e he e1 => ?_, fun e he e1 => ?_, fun v hv' e1 => ?_, fun e1 => ?_, fun e1 => ?_⟩
    · have := h.ch e he; rw [e1, hd] at this; exact ty_ne this (by decide)
    · obtain ⟨_, this, _⟩ := h.rw e he; rw [e1, hd] at this; exact ty_ne this (by decide)
    · have := h.vb v hv'; rw [e1, hd] at this; exact ty_ne this (by decide)
    · rw [e1, hd] at hs; exact ty_ne hs (by decide)
    · rw [e1, hd] at hv; cases hv
/-- the others are apart -/
theorem SA.oth_ne (h : SA w S V D M L P hf cap last vs es R) {e : En} (he : e ∈ es) : (S ≠ e.v ∧ V ≠ e.v ∧ (∀ v ∈ vs, v.b ≠ e.v)) ∧ (S ≠ (R e.k).1 ∧ V ≠ (R e.k).1 ∧ (∀ v ∈ vs, v.b ≠ (R e.k).1)) ∧ (∀ e' ∈ es, e'.v ≠ (R e.k).1) := by
  have hs := h.st
  obtain ⟨vms, vcl, hv, _⟩ := h.vm
  have hc := h.ch e he
  obtain ⟨cur, hr, _⟩ := h.rw e he
  refine ⟨⟨fun e1 => ?_, fun e1 => ?_, fun v hv' e1 => ?_⟩, ⟨fun e1 => ?_, fun e1 => ?_, fun v hv' e1 => ?_⟩, fun e' he' e1 => ?_⟩
  · rw [e1, hc] at hs; cases hs
  · rw [e1, hc] at hv; cases hv
  · have := h.vb v hv'; rw [e1, hc] at this; cases this
  · rw [e1, hr] at hs; cases hs
  · rw [e1, hr] at hv; cases hv
  · have := h.vb v hv'; rw [e1, hr] at this; cases this
  · have := h.ch e' he'; rw [e1, hr] at this; cases this
theorem SA.sv_ne (h : SA w S V D M L P hf cap last vs es R) : S ≠ V ∧ ∀ v ∈ vs, v.b ≠ S ∧ v.b ≠ V := by
  have hs := h.st
  obtain ⟨vms, vcl, hv, _⟩ := h.vm
  refine ⟨fun e1 => ?_, fun v hv' => ⟨fun e1 => ?_, fun e1 => ?_⟩⟩
  · rw [e1, hv] at hs; cases hs
  · have := h.vb v hv'; rw [e1, hs] at this; exact ty_ne this (by decide)
  · have := h.vb v hv'; rw [e1, hv] at this; cases this
end
/-- what stands behind Put -/
structure Aft (w W : World) (S V D M L P : Nat) (hf : Value) (vs : List Vr) (es es' : List En) (R : K → Nat × Nat × Nat) (x : Vr) (e1 : En) (g off cc : Nat) : Prop where
  da : DA W D M L hf P es'
  he1 : e1 ∈ es'
  hk1 : e1.k = x.k
  hc1 : W.heap[e1.v]? = some (.cells #[.slice (some ⟨g, off, none⟩) ((ofK x.k vs).length + 1) cc] 117 (0, 0))
  hrow : RwV W g off cc ((ofK x.k vs).map Vr.b ++ [x.b])
  hold : ∀ e ∈ es', e.k ≠ x.k → e ∈ es ∧ W.heap[e.v]? = w.heap[e.v]? ∧ W.heap[(R e.k).1]? = w.heap[(R e.k).1]? ∧ (R e.k).1 ≠ g
  hsub : ∀ e ∈ es, ∃ e' ∈ es', e'.k = e.k
  cb : (es'.map En.v).Nodup
  st : W.heap[S]? = w.heap[S]?
  vm : W.heap[V]? = w.heap[V]?
  vb : ∀ v ∈ vs, W.heap[v.b]? = w.heap[v.b]?
  xb : W.heap[x.b]? = some (.cells (cellsV x) 102 (0, 0))
  fr : Fr (Fs S V D M L vs es R) w W
  el : es'.length ≤ es.length + 1
  nw : (∀ e ∈ es', e ∈ es ∨ (w.heap.size ≤ e.b ∧ w.heap.size ≤ e.v)) ∧ (w.heap.size ≤ g ∨ (g = (R x.k).1 ∧ ∃ e ∈ es, e.k = x.k))
  ph : ∀ e ∈ es', e.p = hash e.k % P
theorem ud_same {es : List En} (hk : (es.map En.k).Nodup) {k : K} {e0 : En} (h : fd es k = some e0) : es.map (ud k e0.v) = es := by
  have : ∀ e ∈ es, ud k e0.v e = e := fun e he => by
    unfold ud
    split
    · next hek =>
      have := fd_of hk he
      rw [hek, h] at this
      cases this
      rfl
    · rfl
  exact (List.map_congr_left this).trans (List.map_id' _)
/-- a key that has a chain -/
theorem SA.aft_old {w w2 w3 w4 : World} {S V D M L P : Nat} {hf : Value} {cap last : Int} {vs : List Vr} {es : List En} {R : K → Nat × Nat × Nat} (h : SA w S V D M L P hf cap last vs es R) (x : Vr) (hx : w.heap[x.b]? = some (.cells (cellsV x) 102 (0, 0))) (hxb : ∀ k, Fs S V D M L vs es R k → x.b ≠ k) {e0 : En} (hf0 : fd es x.k = some e0) (h2 : Below w.heap.size w w2) {g off cc : Nat}
    (ha : Add w2 w3 e0.v x.b (some ⟨(R x.k).1, (R x.k).2.1, none⟩) ((ofK x.k vs).map Vr.b) g off cc) (hd : DA w4 D M L hf P (es.map (ud x.k e0.v))) (hp : Fr (Ft M L es) w3 w4) : Aft w w4 S V D M L P hf vs es es R x e0 g off cc := by
  obtain ⟨he0, hk0⟩ := fd_some hf0
  rw [ud_same h.da.kn hf0] at hd
  have z2 := h2.size
  have z3 := ha.fr.size
  have hb3 : ∀ k, k < w.heap.size → k ≠ e0.v → k ≠ (R x.k).1 → ¬ Ft M L es k → w4.heap[k]? = w.heap[k]? := fun k hk n1 n2 n3 => by
    refine (hp.block k (by omega) n3).trans ((ha.fr.block k (by omega) (fun e => ?_)).trans (h2.block k hk))
    rcases e with e | e
    · exact n1 e
    · simp at e
      exact n2 e.symm
  have hR0 : (R x.k).1 = (R e0.k).1 := by rw [hk0]
  have hov : Fs S V D M L vs es R e0.v := .inr (.inr (.inr (.inr (.inl ⟨e0, he0, rfl⟩))))
  have hor : Fs S V D M L vs es R (R x.k).1 := .inr (.inr (.inr (.inr (.inr ⟨e0, he0, hR0.symm⟩))))
  have hft : ∀ k, Ft M L es k → Fs S V D M L vs es R k := fun k hk => .inr (.inr (.inr (.inl (.inr hk))))
  obtain ⟨⟨o1, o2, o3⟩, ⟨o4, o5, o6⟩, o7⟩ := h.oth_ne he0
  have hnF : ∀ {k}, Ft M L es k → (∀ e ∈ es, e.v ≠ k) ∧ (∀ e ∈ es, (R e.k).1 ≠ k) ∧ (∀ v ∈ vs, v.b ≠ k) ∧ S ≠ k ∧ V ≠ k := fun hk => h.dict_ne (.inr hk)
  have hgn : g = (R x.k).1 ∨ w2.heap.size ≤ g := by
    rcases ha.wh with e | e
    · left; simpa using e.symm
    · exact .inr e
  have keep4 : ∀ k, k < w3.heap.size → (∀ k', Ft M L es k' → k ≠ k') → w4.heap[k]? = w3.heap[k]? := fun k hk hn => hp.block k hk (fun hF => hn k hF rfl)
  refine ⟨hd, he0, hk0, ?_, ha.rw.same ?_, fun e he hne => ⟨he, ?_, ?_, ?_⟩, fun e he => ⟨e, he, rfl⟩, h.cb, ?_, ?_, fun v hv => ?_, ?_, ?_, by omega, ⟨fun e he => .inl he, hgn.elim (fun e => .inr ⟨e, e0, he0, hk0⟩) (fun e => .inl (by omega))⟩, h.ph⟩
  · have := ha.bx
    rw [List.length_map] at this
    exact (keep4 _ (blk_lt this) (fun k' hF e => (hnF hF).1 e0 he0 e)).trans this
  · obtain ⟨⟨cur, k1, _⟩, _⟩ := ha.rw
    refine keep4 g (blk_lt k1) (fun k' hF e => ?_)
    rcases hgn with e2 | e2
    · exact (hnF hF).2.1 e0 he0 (by rw [← hR0, ← e2]; exact e)
    · have := h.lt' (hft k' hF)
      omega
  · refine hb3 _ (blk_lt (h.ch e he)) (fun e2 => ?_) (fun e2 => o7 e he (by rw [← hR0]; exact e2)) (fun hF => (hnF hF).1 e he rfl)
    have a := h.cb
    obtain ⟨A, C, rfl⟩ := List.append_of_mem he
    have hs := nodup_split a
    rcases List.mem_append.1 he0 with m | m
    · exact hs.1 e0 m e2.symm
    · rcases List.mem_cons.1 m with rfl | m
      · exact hne hk0
      · exact hs.2 e0 m e2.symm
  · obtain ⟨_, k1, _⟩ := h.rw e he
    exact hb3 _ (blk_lt k1) (fun e2 => (h.oth_ne he).2.2 e0 he0 e2.symm) (fun e2 => hne (by rw [h.rn e he e0 he0 (by rw [e2, hR0])]; exact hk0)) (fun hF => (hnF hF).2.1 e he rfl)
  · intro e2
    rcases hgn with e3 | e3
    · exact hne (by rw [h.rn e he e0 he0 (by rw [e2, e3, hR0])]; exact hk0)
    · obtain ⟨_, k1, _⟩ := h.rw e he
      have := blk_lt k1
      omega
  · exact hb3 S (blk_lt h.st) o1 (by rw [hR0]; exact o4) (fun hF => (hnF hF).2.2.2.1 rfl)
  · obtain ⟨_, _, k1, _⟩ := h.vm
    exact hb3 V (blk_lt k1) o2 (by rw [hR0]; exact o5) (fun hF => (hnF hF).2.2.2.2 rfl)
  · exact hb3 v.b (blk_lt (h.vb v hv)) (o3 v hv) (by rw [hR0]; exact o6 v hv) (fun hF => (hnF hF).2.2.1 v hv rfl)
  · exact (hb3 x.b (blk_lt hx) (hxb _ hov) (hxb _ hor) (fun hF => hxb _ (hft _ hF) rfl)).trans hx
  · have z4 := hp.size
    exact ⟨hp.os.trans (ha.fr.os.trans h2.os), hp.tape.trans (ha.fr.tape.trans h2.tape), hp.output.trans (ha.fr.output.trans h2.output), by omega, fun k hk hn => hb3 k hk (fun e => hn (e ▸ hov)) (fun e => hn (e ▸ hor)) (fun hF => hn (hft k hF))⟩
end Go.Proofs.YtbcmmeajglilbaaGreat
/-
  A KEY WITHOUT A CHAIN; THE END OF Insert.
-/
namespace Go.Proofs.YtbcmmeajglilbaaGreat
open Go.RowKit Go.Sort

/-- a key that has none -/
theorem SA.aft_new {w w2 w3 w4 : World} {S V D M L P : Nat} {hf : Value} {cap last : Int} {vs : List Vr} {es : List En} {R : K → Nat × Nat × Nat} (h : SA w S V D M L P hf cap last vs es R) (x : Vr) (hx : w.heap[x.b]? = some (.cells (cellsV x) 102 (0, 0))) (hxb : ∀ k, Fs S V D M L vs es R k → x.b ≠ k) (h2 : Below w.heap.size w w2) {c g off cc E pp : Nat} (hpp : pp = hash x.k % P) (hc : w.heap.size ≤ c) (hE : w.heap.size ≤ E)
    (ha : Add w2 w3 c x.b none ((ofK x.k vs).map Vr.b) g off cc) (hd : DA w4 D M L hf P (es ++ [⟨E, x.k, c, pp⟩])) (hp : Fr (Ft M L es) w3 w4) : Aft w w4 S V D M L P hf vs es (es ++ [⟨E, x.k, c, pp⟩]) R x ⟨E, x.k, c, pp⟩ g off cc := by
  have z2 := h2.size
  have z3 := ha.fr.size
  have hb3 : ∀ k, k < w.heap.size → ¬ Ft M L es k → w4.heap[k]? = w.heap[k]? := fun k hk n3 => by
    refine (hp.block k (by omega) n3).trans ((ha.fr.block k (by omega) (fun e => ?_)).trans (h2.block k hk))
    rcases e with e | e
    · omega
    · cases e
  have hft : ∀ k, Ft M L es k → Fs S V D M L vs es R k := fun k hk => .inr (.inr (.inr (.inl (.inr hk))))
  have hnF : ∀ {k}, Ft M L es k → (∀ e ∈ es, e.v ≠ k) ∧ (∀ e ∈ es, (R e.k).1 ≠ k) ∧ (∀ v ∈ vs, v.b ≠ k) ∧ S ≠ k ∧ V ≠ k := fun hk => h.dict_ne (.inr hk)
  have hgn : w2.heap.size ≤ g := by
    rcases ha.wh with e | e
    · cases e
    · exact e
  have keep4 : ∀ k, k < w3.heap.size → w.heap.size ≤ k → w4.heap[k]? = w3.heap[k]? := fun k hk hn => hp.block k hk (fun hF => by have := h.lt' (hft k hF); omega)
  have hel : ∀ e ∈ es ++ [⟨E, x.k, c, pp⟩], e.k ≠ x.k → e ∈ es := fun e he hne => by
    rcases List.mem_append.1 he with he | he
    · exact he
    · simp at he; subst he; exact absurd rfl hne
  refine ⟨hd, by simp, rfl, ?_, ha.rw.same ?_, fun e he hne => ⟨hel e he hne, ?_, ?_, ?_⟩, fun e he => ⟨e, by simp [he], rfl⟩, ?_, ?_, ?_, fun v hv => ?_, ?_, ?_, by simp, ⟨fun e he => ?_, .inl (by omega)⟩, fun e he => by
    rcases List.mem_append.1 he with he | he
    · exact h.ph e he
    · simp at he; subst he; exact hpp⟩
  · have := ha.bx
    rw [List.length_map] at this
    exact (keep4 _ (blk_lt this) hc).trans this
  · obtain ⟨⟨cur, k1, _⟩, _⟩ := ha.rw
    exact keep4 g (blk_lt k1) (by omega)
  · exact hb3 _ (blk_lt (h.ch e (hel e he hne))) (fun hF => (hnF hF).1 e (hel e he hne) rfl)
  · obtain ⟨_, k1, _⟩ := h.rw e (hel e he hne)
    exact hb3 _ (blk_lt k1) (fun hF => (hnF hF).2.1 e (hel e he hne) rfl)
  · intro e2
    obtain ⟨_, k1, _⟩ := h.rw e (hel e he hne)
    have := blk_lt k1
    omega
  · rw [List.map_append, List.nodup_append]
    refine ⟨h.cb, by simp, fun a ha' b hb' => ?_⟩
    obtain ⟨e, he, rfl⟩ := List.mem_map.1 ha'
    simp at hb'
    subst hb'
    have := blk_lt (h.ch e he)
    omega
  · exact hb3 S (blk_lt h.st) (fun hF => (hnF hF).2.2.2.1 rfl)
  · obtain ⟨_, _, k1, _⟩ := h.vm
    exact hb3 V (blk_lt k1) (fun hF => (hnF hF).2.2.2.2 rfl)
  · exact hb3 v.b (blk_lt (h.vb v hv)) (fun hF => (hnF hF).2.2.1 v hv rfl)
  · exact (hb3 x.b (blk_lt hx) (fun hF => hxb _ (hft _ hF) rfl)).trans hx
  · have z4 := hp.size
    exact ⟨hp.os.trans (ha.fr.os.trans h2.os), hp.tape.trans (ha.fr.tape.trans h2.tape), hp.output.trans (ha.fr.output.trans h2.output), by omega, fun k hk hn => hb3 k hk (fun hF => hn (hft k hF))⟩
  · rcases List.mem_append.1 he with he | he
    · exact .inl he
    · simp at he; subst he; exact .inr ⟨hE, hc⟩
/-- the number is told, and kept -/
theorem Aft.fin {w W W' : World} {S V D M L P : Nat} {hf : Value} {cap last : Int} {vs : List Vr} {es es' : List En} {R : K → Nat × Nat × Nat} {x : Vr} {e1 : En} {g off cc : Nat} (h : SA w S V D M L P hf cap last vs es R) (a : Aft w W S V D M L P hf vs es es' R x e1 g off cc) (hxn : x.n = last + 1) (hin : KIn x.k ∧ In64 x.ba ∧ In64 x.ix ∧ In64 x.cv) (hE : insE cap vs x = 0) (hl0 : 0 ≤ last ∧ last + 1 ≤ 1000000000000000) (hxb : ∀ k, Fs S V D M L vs es R k → x.b ≠ k)
    (st' : W'.heap[S]? = some (.cells #[.int .i64 (P : Int), .int .i64 cap, .int .i64 (last + 1), .map (some V), ptr D] 61 (0, 0)))
    (vm' : ∃ ms clock, W'.heap[V]? = some (.map ms clock) ∧ ms.toList.map (fun x => (x.key, x.val)) = (vs ++ [x]).map (fun v => (.int .i64 v.n, ptr v.b)))
    (hs : ∀ k, k ≠ S → k ≠ V → W'.heap[k]? = W.heap[k]?) (hos : W'.os = W.os ∧ W'.tape = W.tape ∧ W'.output = W.output ∧ W.heap.size ≤ W'.heap.size) :
    SA W' S V D M L P hf cap (last + 1) (vs ++ [x]) es' (fun k => if k = x.k then (g, off, cc) else R k) ∧ Fr (Fs S V D M L vs es R) w W' ∧ ∀ k, Fs S V D M L (vs ++ [x]) es' (fun k => if k = x.k then (g, off, cc) else R k) k → Fs S V D M L vs es R k ∨ w.heap.size ≤ k ∨ k = x.b := by
  obtain ⟨sv1, sv2⟩ := h.sv_ne
  have sW : W.heap[S]? = some (.cells #[.int .i64 (P : Int), .int .i64 cap, .int .i64 last, .map (some V), ptr D] 61 (0, 0)) := a.st.trans h.st
  obtain ⟨ms0, cl0, v0, _⟩ := h.vm
  have vW : W.heap[V]? = some (.map ms0 cl0) := a.vm.trans v0
  have hD : ∀ k, (k = D ∨ Ft M L es' k) → k ≠ S ∧ k ≠ V := fun k hk => by
    have hlt := a.da
    rcases hk with rfl | rfl | rfl | ⟨e', he', rfl⟩
    · exact ⟨fun e => by (have := hlt.dc; rw [e, sW] at this; exact ty_ne this (by decide)), fun e => by (have := hlt.dc; rw [e, vW] at this; cases this)⟩
    · obtain ⟨_, _, k1, _⟩ := hlt.mp
      exact ⟨fun e => by (rw [e, sW] at k1; cases k1), fun e => h.VM e.symm⟩
    · obtain ⟨_, k1, _⟩ := hlt.ln
      exact ⟨fun e => by (rw [e, sW] at k1; exact ty_ne k1 (by decide)), fun e => by (rw [e, vW] at k1; cases k1)⟩
    · obtain ⟨_, _, k1⟩ := hlt.entry he'
      exact ⟨fun e => by (rw [e, sW] at k1; exact ty_ne k1 (by decide)), fun e => by (rw [e, vW] at k1; cases k1)⟩
  have hC : ∀ {k : Nat} {cs : Array Value}, W.heap[k]? = some (.cells cs 117 (0, 0)) → k ≠ S ∧ k ≠ V := fun {k cs} hk => ⟨fun e => by (rw [e, sW] at hk; exact ty_ne hk (by decide)), fun e => by (rw [e, vW] at hk; cases hk)⟩
  have hRw : ∀ {k : Nat} {cs : Array Value}, W.heap[k]? = some (.cells cs 98 (0, 0)) → k ≠ S ∧ k ≠ V := fun {k cs} hk => ⟨fun e => by (rw [e, sW] at hk; exact ty_ne hk (by decide)), fun e => by (rw [e, vW] at hk; cases hk)⟩
  refine ⟨h.ins x hxn hin hE hl0 g off cc st' vm' (fun v hv => ?_) (a.da.same (fun k hk => hs k (hD k hk).1 (hD k hk).2)) e1 a.he1 a.hk1 ((hs _ (hC a.hc1).1 (hC a.hc1).2).trans a.hc1) (a.hrow.same ?_) (fun e he hne => ?_) a.hsub a.cb (fun v hv e => hxb v.b (.inr (.inr (.inl ⟨v, hv, rfl⟩))) e.symm) (by have := a.el; have := h.el; omega) a.ph, ?_, ?_⟩
  · rcases List.mem_append.1 hv with hv | hv
    · exact (hs _ (sv2 v hv).1 (sv2 v hv).2).trans ((a.vb v hv).trans (h.vb v hv))
    · simp at hv
      subst hv
      exact (hs _ (hxb S (.inl rfl)) (hxb V (.inr (.inl rfl)))).trans a.xb
  · obtain ⟨⟨cur, k1, _⟩, _⟩ := a.hrow
    exact hs g (hRw k1).1 (hRw k1).2
  · obtain ⟨h1, h2, h3, h4⟩ := a.hold e he hne
    obtain ⟨_, k1, _⟩ := h.rw e h1
    have c1 := hC (h2.trans (h.ch e h1))
    have c2 := hRw (h3.trans k1)
    exact ⟨h1, (hs _ c1.1 c1.2).trans h2, (hs _ c2.1 c2.2).trans h3, h4⟩
  · have := a.fr.size
    exact ⟨hos.1.trans a.fr.os, hos.2.1.trans a.fr.tape, hos.2.2.1.trans a.fr.output, by have := hos.2.2.2; omega, fun k hk hn => (hs k (fun e => hn (.inl e)) (fun e => hn (.inr (.inl e)))).trans (a.fr.block k hk hn)⟩
  · intro k hk
    have ft : ∀ k, (k = D ∨ Ft M L es k) → Fs S V D M L vs es R k := fun k hk => .inr (.inr (.inr (.inl hk)))
    rcases hk with rfl | rfl | ⟨v, hv, rfl⟩ | hd | ⟨e, he, rfl⟩ | ⟨e, he, rfl⟩
    · exact .inl (.inl rfl)
    · exact .inl (.inr (.inl rfl))
    · rcases List.mem_append.1 hv with hv | hv
      · exact .inl (.inr (.inr (.inl ⟨v, hv, rfl⟩)))
      · simp at hv; subst hv; exact .inr (.inr rfl)
    · rcases hd with rfl | rfl | rfl | ⟨e, he, rfl⟩
      · exact .inl (ft _ (.inl rfl))
      · exact .inl (ft _ (.inr (.inl rfl)))
      · exact .inl (ft _ (.inr (.inr (.inl rfl))))
      · rcases a.nw.1 e he with h1 | h1
        · exact .inl (ft _ (.inr (.inr (.inr ⟨e, h1, rfl⟩))))
        · exact .inr (.inl h1.1)
    · rcases a.nw.1 e he with h1 | h1
      · exact .inl (.inr (.inr (.inr (.inr (.inl ⟨e, h1, rfl⟩)))))
      · exact .inr (.inl h1.2)
    · simp only
      by_cases hk : e.k = x.k
      · rw [if_pos hk]
        rcases a.nw.2 with h1 | ⟨h1, e', he', hk'⟩
        · exact .inr (.inl h1)
        · exact .inl (.inr (.inr (.inr (.inr (.inr ⟨e', he', by rw [hk']; exact h1.symm⟩)))))
      · rw [if_neg hk]
        exact .inl (.inr (.inr (.inr (.inr (.inr ⟨e, (a.hold e he hk).1, rfl⟩)))))
end Go.Proofs.YtbcmmeajglilbaaGreat
/-
  Insert.
-/
namespace Go.Proofs.YtbcmmeajglilbaaGreat
open Go.RowKit Go.Sort

/-- the version that is put in -/
abbrev xV (b : Nat) (last : Int) (k : K) (ba ix : Int) : Vr := ⟨b, last + 1, k, ba, ix, false, false, 0⟩
theorem insE_b (cap : Int) (vs : List Vr) (a b : Nat) (last : Int) (k : K) (ba ix : Int) : insE cap vs (xV a last k ba ix) = insE cap vs (xV b last k ba ix) := rfl
def InsPost (w : World) (S V D M L P : Nat) (hf : Value) (cap last : Int) (vs : List Vr) (es : List En) (R : K → Nat × Nat × Nat) (k : K) (ba ix : Int) (e : Ending) (w' : World) : Prop :=
  (insE cap vs (xV 0 last k ba ix) ≠ 0 ∧ e = .returned (.tuple #[.int .i64 0, .int .i64 (insE cap vs (xV 0 last k ba ix))]) ∧ Below w.heap.size w w') ∨
  (insE cap vs (xV 0 last k ba ix) = 0 ∧ e = .returned (.tuple #[.int .i64 (last + 1), .int .i64 0]) ∧ ∃ b es' R', w.heap.size ≤ b ∧ SA w' S V D M L P hf cap (last + 1) (vs ++ [xV b last k ba ix]) es' R' ∧ Fr (Fs S V D M L vs es R) w w' ∧ ∀ k', Fs S V D M L (vs ++ [xV b last k ba ix]) es' R' k' → Fs S V D M L vs es R k' ∨ w.heap.size ≤ k')
/-- chainFor, for Insert: the chain, and what Put leaves behind add -/
def ForIt (w : World) (S V D M L P : Nat) (hf : Value) (vs : List Vr) (es : List En) (R : K → Nat × Nat × Nat) (x : Vr) (E : Int) (e : Ending) (w2 : World) : Prop :=
  Below w.heap.size w w2 ∧ ((E ≠ 0 ∧ e = .returned (.tuple #[.pointer none, .int .i64 E])) ∨
    (E = 0 ∧ ∃ cb ao cc, e = .returned (.tuple #[ptr cb, .int .i64 0]) ∧ w2.heap[cb]? = some (.cells #[.slice ao (ofK x.k vs).length cc] 117 (0, 0)) ∧
      ((ao = none ∧ cc = 0 ∧ (ofK x.k vs).map Vr.b = []) ∨ ∃ g off, ao = some ⟨g, off, none⟩ ∧ RwV w2 g off cc ((ofK x.k vs).map Vr.b)) ∧
      ∀ w3 g off cc', Add w2 w3 cb x.b ao ((ofK x.k vs).map Vr.b) g off cc' → (∀ k, (k = S ∨ k + 1 = x.b ∨ k = D) → k < w2.heap.size → w3.heap[k]? = w2.heap[k]?) ∧ Calls Tryz.prog 47 #[ptr D, kv x.k, ptr cb] w3.drew fun e w4 => (∃ va vb, e = .returned (.tuple #[va, .bool vb])) ∧ Fr (Ft M L es) w3 w4 ∧ ∃ es' e1, Aft w w4 S V D M L P hf vs es es' R x e1 g off cc'))
theorem for_it (w : World) (S V D M L P f : Nat) (hok : PartOK f hash) (cap last : Int) (vs : List Vr) (es : List En) (R : K → Nat × Nat × Nat) (x : Vr) (h : SA w S V D M L P (hfn f) cap last vs es R) (hx : w.heap[x.b]? = some (.cells (cellsV x) 102 (0, 0))) (hxb : ∀ k, Fs S V D M L vs es R k → k + 1 < x.b) (hk : KIn x.k) :
    Calls Tryz.prog 45 #[ptr S, ptr x.b] w fun e w2 => ForIt w S V D M L P (hfn f) vs es R x (insE cap vs x) e w2 := by
  refine (chainFor_any w S V D M L P (hfn f) cap last vs es R x.b x h hx hk).mono ?_
  have hxb' : ∀ k, Fs S V D M L vs es R k → x.b ≠ k := fun k hF e => by have := hxb k hF; omega
  have hlen : es.length ≤ 140737488355328 := by
    have := h.el; have := h.lt; omega
  rintro e w2 ⟨hb2, ⟨hne, rfl⟩ | ⟨hE0, ⟨e0, hf0, rfl⟩ | ⟨hf0, c, rfl, hc, hcx⟩⟩⟩
  · exact ⟨hb2, .inl ⟨hne, rfl⟩⟩
  · obtain ⟨he0, hk0⟩ := fd_some hf0
    have h2 := h.kept hb2
    have hch := h2.ch e0 he0
    have hrw := h2.rwv he0
    rw [hk0] at hch hrw
    refine ⟨hb2, .inr ⟨hE0, e0.v, some ⟨(R x.k).1, (R x.k).2.1, none⟩, (R x.k).2.2, rfl, hch, .inr ⟨_, _, rfl, hrw⟩, fun w3 g off cc' ha => ⟨fun k hk1 hk2 => ?_, ?_⟩⟩⟩
    · refine ha.fr.block k hk2 (fun e => ?_)
      obtain ⟨⟨o1, _⟩, ⟨o4, _⟩, _⟩ := h2.oth_ne he0
      have d1 := h2.dict_ne (.inl rfl)
      have t1 : Fs S V D M L vs es R e0.v := .inr (.inr (.inr (.inr (.inl ⟨e0, he0, rfl⟩))))
      have t2 : Fs S V D M L vs es R (R e0.k).1 := .inr (.inr (.inr (.inr (.inr ⟨e0, he0, rfl⟩))))
      have q1 := hxb _ t1
      have q2 := hxb _ t2
      rw [hk0] at q2 o4
      rcases e with rfl | e
      · rcases hk1 with e | e | e
        · exact o1 e.symm
        · omega
        · exact d1.1 e0 he0 e
      · simp at e
        subst e
        rcases hk1 with e | e | e
        · exact o4 e.symm
        · omega
        · exact d1.2.1 e0 he0 (by rw [hk0]; exact e)
    · have hd3 : DA w3 D M L (hfn f) P es := h2.da.same (fun k hk' => ha.fr.block k (h2.da.lt hk') (fun e => by
        have d1 := h2.dict_ne hk'
        rcases e with e | e
        · exact d1.1 e0 he0 e.symm
        · simp at e
          exact d1.2.1 e0 he0 (by rw [hk0]; exact e)))
      have hd3' : DA w3.drew D M L (hfn f) P es := hd3.same (fun _ _ => rfl)
      refine (put_old w3.drew D M L P (hfn f) es x.k e0.v hd3' hk trivial e0 hf0).mono ?_
      rintro e w4 ⟨rfl, hd4, hfr⟩
      have hfr' : Fr (Ft M L es) w3 w4 := ⟨hfr.os, hfr.tape, hfr.output, hfr.size, hfr.block⟩
      exact ⟨⟨_, _, rfl⟩, hfr', es, e0, h.aft_old x hx hxb' hf0 hb2 ha hd4 hfr'⟩
  · have h2 := h.kept hb2
    have hof := h.none_of hf0
    refine ⟨hb2, .inr ⟨hE0, c, none, 0, rfl, by rw [hof]; exact hcx, .inl ⟨rfl, rfl, by rw [hof]; rfl⟩, fun w3 g off cc' ha => ⟨fun k hk1 hk2 => ?_, ?_⟩⟩⟩
    · refine ha.fr.block k hk2 (fun e => ?_)
      rcases e with rfl | e
      · have hbl := blk_lt hx
        rcases hk1 with e | e | e
        · have := blk_lt h.st; omega
        · omega
        · have := h.da.lt (.inl e); omega
      · cases e
    · have hd3 : DA w3 D M L (hfn f) P es := h2.da.same (fun k hk' => ha.fr.block k (h2.da.lt hk') (fun e => by
        rcases e with e | e
        · have := h.da.lt hk'; omega
        · cases e))
      have hd3' : DA w3.drew D M L (hfn f) P es := hd3.same (fun _ _ => rfl)
      refine (put_new w3.drew D M L P f hash hok es x.k c hd3' hk trivial hf0 hlen).mono ?_
      rintro e w4 ⟨E, rfl, hd4, hE, hfr⟩
      have hfr' : Fr (Ft M L es) w3 w4 := ⟨hfr.os, hfr.tape, hfr.output, hfr.size, hfr.block⟩
      exact ⟨⟨_, _, rfl⟩, hfr', _, _, h.aft_new x hx hxb' hb2 rfl hc (Nat.le_trans (Nat.le_trans hb2.size ha.fr.size) hE) ha hd4 hfr'⟩
end Go.Proofs.YtbcmmeajglilbaaGreat
/-
  Insert.
-/
namespace Go.Proofs.YtbcmmeajglilbaaGreat
open Go.RowKit Go.Sort

set_option maxRecDepth 100000 in
set_option maxHeartbeats 4000000 in
theorem insert_any (w : World) (S V D M L P f : Nat) (hok : PartOK f hash) (cap last : Int) (vs : List Vr) (es : List En) (R : K → Nat × Nat × Nat) (k : K) (ba ix : Int) (h : SA w S V D M L P (hfn f) cap last vs es R) (hk : KIn k) (hba : In64 ba) (hix : In64 ix) (hl0 : 0 ≤ last ∧ last + 1 ≤ 1000000000000000) :
    Calls Tryz.prog 12 #[ptr S, kv k, .int .i64 ba, .int .i64 ix] w fun e w' => InsPost w S V D M L P (hfn f) cap last vs es R k ba ix e w' := by
  obtain ⟨k1, k2⟩ := k
  have HB0 : Hid (∀ o, Below w.heap.size w (w.alloc o)) := fun o => (Below.refl _ _).alloc (Nat.le_refl _) _
  have s2 : ∀ o, (w.alloc o).cell? ⟨S, 2, none⟩ = some (.int .i64 last) := fun o => (h.kept (HB0.out o)).cells.2.2.1
  have hw64 : wrap64 (last + 1) = last + 1 := by unfold wrap64; omega
  have HS : Hid (SA w S V D M L P (hfn f) cap last vs es R) := h
  have HI : Hid (PartOK f hash ∧ KIn (k1, k2) ∧ In64 ba ∧ In64 ix) := ⟨hok, hk, hba, hix⟩
  clear h hok hk hba hix
  go_enter Tryz.func12, Tryz.ntmps12
  go_wp2_with fail
  go_region
  have HW1 : Hid (Below w.heap.size w ((w.alloc (.cells #[.int .i64 k1, .int .i64 k2] 41)).alloc (.cells #[.int .i64 ba, .int .i64 ix, .int .i64 (last + 1), .int .i64 k1, .int .i64 k2, .bool false, .bool false, .int .i64 0] 102)).drew) := by
    have h1 := ((Below.refl w.heap.size w).alloc (Nat.le_refl _) (.cells #[.int .i64 k1, .int .i64 k2] 41)).alloc (by simp) (.cells #[.int .i64 ba, .int .i64 ix, .int .i64 (last + 1), .int .i64 k1, .int .i64 k2, .bool false, .bool false, .int .i64 0] 102)
    exact ⟨h1.os, h1.tape, h1.output, h1.size, h1.block⟩
  have HX1 : Hid ((((w.alloc (.cells #[.int .i64 k1, .int .i64 k2] 41)).alloc (.cells #[.int .i64 ba, .int .i64 ix, .int .i64 (last + 1), .int .i64 k1, .int .i64 k2, .bool false, .bool false, .int .i64 0] 102)).drew).heap[w.heap.size + 1]? = some (.cells (cellsV (xV (w.heap.size + 1) last (k1, k2) ba ix)) 102 (0, 0))) := heap_alloc_new (w := w.alloc (.cells #[.int .i64 k1, .int .i64 k2] 41)) _ _ (by simp)
  have HK1 : Hid ((((w.alloc (.cells #[.int .i64 k1, .int .i64 k2] 41)).alloc (.cells #[.int .i64 ba, .int .i64 ix, .int .i64 (last + 1), .int .i64 k1, .int .i64 k2, .bool false, .bool false, .int .i64 0] 102)).drew).heap[w.heap.size]? = some (.cells #[.int .i64 k1, .int .i64 k2] 41 (0, 0))) := (heap_alloc_old (w := w.alloc (.cells #[.int .i64 k1, .int .i64 k2] 41)) _ _ (by simp)).trans (heap_alloc_new _ _ rfl)
  go_wp2_with fail
  generalize ((w.alloc (.cells #[.int .i64 k1, .int .i64 k2] 41)).alloc (.cells #[.int .i64 ba, .int .i64 ix, .int .i64 (last + 1), .int .i64 k1, .int .i64 k2, .bool false, .bool false, .int .i64 0] 102)).drew = W1 at *
  have HS1 : Hid (SA W1 S V D M L P (hfn f) cap last vs es R) := HS.out.kept HW1.out
  obtain ⟨E, hE⟩ : ∃ E, E = insE cap vs (xV 0 last (k1, k2) ba ix) := ⟨_, rfl⟩
  have HE : Hid (E = insE cap vs (xV 0 last (k1, k2) ba ix)) := hE
  obtain ⟨b, hb⟩ : ∃ b, b = w.heap.size + 1 := ⟨_, rfl⟩
  rw [← hb] at HX1 ⊢
  have hxb : ∀ k, Fs S V D M L vs es R k → k + 1 < b := fun k hF => by have := HS.out.lt' hF; omega
  have HFi := for_it W1 S V D M L P f HI.out.1 cap last vs es R (xV b last (k1, k2) ba ix) HS1.out HX1.out hxb HI.out.2.1
  rw [insE_b cap vs b 0 last (k1, k2) ba ix, ← hE] at HFi
  have Hxb : Hid (∀ k, Fs S V D M L vs es R k → k + 1 < b) := hxb
  have Hb : Hid (b = w.heap.size + 1) := hb
  obtain ⟨n, hn⟩ : ∃ n, n = (ofK (k1, k2) vs).length := ⟨_, rfl⟩
  have Hn : Hid (n = (ofK (k1, k2) vs).length) := hn
  clear hE hxb s2 hw64 hb
  refine HFi.mono ?_
  clear HFi
  rintro e w2 ⟨hb2, ⟨hne, rfl⟩ | ⟨hE0, cb, ao, cc, rfl, hcx, hv, hnext⟩⟩
  · have HF : Hid (Below w.heap.size w w2) := HW1.out.trans (hb2.mono HW1.out.size)
    have hne' : ¬ E = 0 := hne
    have HN : Hid (E ≠ 0) := hne
    clear hb2 hne
    go_wp2
    go_ret2
    exact .inl ⟨by rw [← HE.out]; exact HN.out, by rw [← HE.out]; rfl, HF.out⟩
  · subst hE0
    simp only at hcx hv hnext
    rw [← hn] at hcx
    have HB2 : Hid (Below W1.heap.size W1 w2) := hb2
    have HNx := hnext
    have HAd : Hid (Calls Tryz.prog 46 #[ptr cb, ptr b] w2 fun e w' => e = .returned (.tuple #[]) ∧ ∃ g off cc', Add w2 w' cb b ao ((ofK (k1, k2) vs).map Vr.b) g off cc') := by
      refine add_any w2 cb b ao n cc _ (by rw [hn, List.length_map]) hcx hv ?_
      have h1 : (ofK (k1, k2) vs).length ≤ vs.length := List.length_filter_le _ _
      have := HS.out.lt
      omega
    clear hb2 hcx hv hnext hn
    have HNext : Hid (∀ w3 g off cc', Add w2 w3 cb b ao ((ofK (k1, k2) vs).map Vr.b) g off cc' → _) := HNx
    clear HNx
    go_wp2_with fail
    refine HAd.out.mono ?_
    rintro e w3 ⟨rfl, g, off, cc', had⟩
    obtain ⟨hkeep, hput⟩ := HNext.out w3 g off cc' had
    have hs3 : w3.heap[S]? = W1.heap[S]? := (hkeep S (.inl rfl) (Nat.lt_of_lt_of_le (blk_lt HS1.out.st) HB2.out.size)).trans (HB2.out.block _ (blk_lt HS1.out.st))
    have hk3 : w3.heap[w.heap.size]? = W1.heap[w.heap.size]? := (hkeep w.heap.size (.inr (.inl (by show w.heap.size + 1 = b; exact Hb.out.symm))) (Nat.lt_of_lt_of_le (blk_lt HK1.out) HB2.out.size)).trans (HB2.out.block _ (blk_lt HK1.out))
    have HCl : Hid (∀ W : World, W.heap[S]? = W1.heap[S]? → W.heap[w.heap.size]? = W1.heap[w.heap.size]? → W.cell? ⟨S, 4, none⟩ = some (ptr D) ∧ W.cell? ⟨w.heap.size, 0, none⟩ = some (.int .i64 k1) ∧ W.cell? ⟨w.heap.size, 1, none⟩ = some (.int .i64 k2)) := fun W x1 x2 => by
      rw [HS1.out.st] at x1
      rw [HK1.out] at x2
      refine ⟨?_, ?_, ?_⟩ <;> simp [World.cell?, x1, x2]
    have HPut : Hid (Calls Tryz.prog 47 #[ptr D, .agg #[.int .i64 k1, .int .i64 k2], ptr cb] w3.drew fun e w4 => (∃ va vb, e = .returned (.tuple #[va, .bool vb])) ∧ Fr (Ft M L es) w3 w4 ∧ ∃ es' e1, Aft W1 w4 S V D M L P (hfn f) vs es es' R (xV b last (k1, k2) ba ix) e1 g off cc') := hput
    have Hk3 : Hid (w3.heap[w.heap.size]? = W1.heap[w.heap.size]? ∧ w.heap.size < w3.heap.size) := ⟨hk3, blk_lt (hk3.trans HK1.out)⟩
    obtain ⟨s4, kb0, kb1⟩ := HCl.out w3 hs3 hk3
    clear hkeep hput hs3 hk3 had HAd HNext
    go_upto_region 6 with fail
    go_region_held3 (fun w' => w'.cell? ⟨S, 4, none⟩ = some (ptr D) ∧ w'.cell? ⟨w.heap.size, 0, none⟩ = some (.int .i64 k1) ∧ w'.cell? ⟨w.heap.size, 1, none⟩ = some (.int .i64 k2)) (first | exact HCl.out _ HA4.out.1.st HA4.out.2 | go_keep) (first | (go_at_call 47; refine HPut.out.mono ?_; rintro e w4 ⟨⟨va, vb, rfl⟩, hf4, es', e1, ha4⟩; have HA4 : Hid (Aft W1 w4 S V D M L P (hfn f) vs es es' R (xV b last (k1, k2) ba ix) e1 g off cc' ∧ w4.heap[w.heap.size]? = W1.heap[w.heap.size]?) := ⟨ha4, (hf4.block _ Hk3.out.2 (fun hF => by have := Hxb.out _ (.inr (.inr (.inr (.inl (.inr hF))))); have := Hb.out; omega)).trans Hk3.out.1⟩; clear hf4 ha4))
    clear s4 kb0 kb1 HPut Hk3 HCl
    obtain ⟨ms, clock, hm1, hm2⟩ := HS1.out.vm
    have HV4 : Hid (w4.heap[V]? = some (.map ms clock)) := HA4.out.1.vm.trans hm1
    have HS4 : Hid (w4.heap[S]? = some (.cells #[.int .i64 (P : Int), .int .i64 cap, .int .i64 last, .map (some V), ptr D] 61 (0, 0))) := HA4.out.1.st.trans HS1.out.st
    have s3 : w4.cell? ⟨S, 3, none⟩ = some (.map (some V)) := by rw [World.cell?, HS4.out]; rfl
    have x2 : w4.cell? ⟨b, 2, none⟩ = some (.int .i64 (last + 1)) := by rw [World.cell?, HA4.out.1.xb]; rfl
    have hno : fv vs (last + 1) = none := List.find?_eq_none.2 (fun v hv => by have := (HS1.out.nl v hv).2; simp; omega)
    have hmu : (Instr.mapUpdate 59 (.map (some V)) (.int .i64 (last + 1)) (ptr b)).run Tryz.prog w4.drew = .ok () (ChangeMaps.setBlock w4.drew V (.map (ms.push ⟨.int .i64 (last + 1), ptr b, clock⟩) (clock + 1))) :=
      vm_put (w := w4.drew) (k := last + 1) HV4.out HS1.out.nums.1 hm2 HS1.out.nums.2 (by unfold In64; omega) hno b
    have HM5 : Hid (∃ ms' c, (ChangeMaps.setBlock w4.drew V (.map (ms.push ⟨.int .i64 (last + 1), ptr b, clock⟩) (clock + 1))).heap[V]? = some (.map ms' c) ∧ ms'.toList.map (fun x => (x.key, x.val)) = (vs ++ [xV b last (k1, k2) ba ix]).map (fun v => (.int .i64 v.n, ptr v.b))) :=
      ⟨_, _, ChangeMaps.heap_setBlock_same (w := w4.drew) HV4.out _, by simp [hm2]⟩
    have HO5 : Hid (∀ k, k ≠ V → (ChangeMaps.setBlock w4.drew V (.map (ms.push ⟨.int .i64 (last + 1), ptr b, clock⟩) (clock + 1))).heap[k]? = w4.heap[k]?) := fun k hk => ChangeMaps.heap_setBlock_other (w := w4.drew) HV4.out _ hk
    have HZ5 : Hid ((ChangeMaps.setBlock w4.drew V (.map (ms.push ⟨.int .i64 (last + 1), ptr b, clock⟩) (clock + 1))).heap.size = w4.heap.size ∧ (ChangeMaps.setBlock w4.drew V (.map (ms.push ⟨.int .i64 (last + 1), ptr b, clock⟩) (clock + 1))).os = w4.os ∧ (ChangeMaps.setBlock w4.drew V (.map (ms.push ⟨.int .i64 (last + 1), ptr b, clock⟩) (clock + 1))).tape = w4.tape ∧ (ChangeMaps.setBlock w4.drew V (.map (ms.push ⟨.int .i64 (last + 1), ptr b, clock⟩) (clock + 1))).output = w4.output) := ⟨by simp [ChangeMaps.setBlock], rfl, rfl, rfl⟩
    go_upto_region 7 with fail
    go_region
    generalize ChangeMaps.setBlock w4.drew V (.map (ms.push ⟨.int .i64 (last + 1), ptr b, clock⟩) (clock + 1)) = W5 at *
    clear s3 x2 hmu hm1 hm2 hno
    have nSV : S ≠ V := fun e => by have h1 := HS4.out; rw [e, HV4.out] at h1; cases h1
    have nbV : b ≠ V := fun e => by have h1 := HA4.out.1.xb; simp only at h1; rw [e, HV4.out] at h1; cases h1
    have nbS : b ≠ S := fun e => by have h1 := HA4.out.1.xb; simp only at h1; rw [e, HS4.out] at h1; exact ty_ne h1 (by decide)
    have hS5 : W5.heap[S]? = some (.cells #[.int .i64 (P : Int), .int .i64 cap, .int .i64 last, .map (some V), ptr D] 61 (0, 0)) := (HO5.out S nSV).trans HS4.out
    have s2 : W5.cell? ⟨S, 2, none⟩ = some (.int .i64 last) := by rw [World.cell?, hS5]; rfl
    have f2 : W5.frozen? ⟨S, 2, none⟩ = false := frozen_of_row _ _ _ _ _ hS5
    have hb5 : W5.heap[b]? = some (.cells (cellsV (xV b last (k1, k2) ba ix)) 102 (0, 0)) := (HO5.out b nbV).trans HA4.out.1.xb
    have x2 : W5.cell? ⟨b, 2, none⟩ = some (.int .i64 (last + 1)) := by rw [World.cell?, hb5]; rfl
    have HS5 : Hid ((W5.setCell ⟨S, 2, none⟩ (.int .i64 (last + 1))).heap[S]? = some (.cells #[.int .i64 (P : Int), .int .i64 cap, .int .i64 (last + 1), .map (some V), ptr D] 61 (0, 0))) := blk_set _ hS5
    have HO6 : Hid (∀ k, k ≠ S → (W5.setCell ⟨S, 2, none⟩ (.int .i64 (last + 1))).heap[k]? = W5.heap[k]?) := fun k hk => heap_setCell_other _ _ _ _ hk
    have HZ6 : Hid ((W5.setCell ⟨S, 2, none⟩ (.int .i64 (last + 1))).heap.size = W5.heap.size ∧ (W5.setCell ⟨S, 2, none⟩ (.int .i64 (last + 1))).os = W5.os ∧ (W5.setCell ⟨S, 2, none⟩ (.int .i64 (last + 1))).tape = W5.tape ∧ (W5.setCell ⟨S, 2, none⟩ (.int .i64 (last + 1))).output = W5.output) := ⟨by simp, rfl, rfl, rfl⟩
    clear hS5 hb5
    go_wp2
    go_ret2
    refine .inr ⟨HE.out.symm, rfl, b, es', (fun k => if k = (k1, k2) then (g, off, cc') else R k), by have := Hb.out; omega, ?_⟩
    generalize W5.setCell ⟨S, 2, none⟩ (.int .i64 (last + 1)) = W6 at *
    have hfin := HA4.out.1.fin HS1.out (W' := W6) rfl ⟨HI.out.2.1, HI.out.2.2.1, HI.out.2.2.2, by show In64 0; unfold In64; omega⟩ HE.out.symm hl0 (fun k hF e => by have := Hxb.out k hF; simp only at e; omega) HS5.out (by
      obtain ⟨ms', c, q1, q2⟩ := HM5.out
      exact ⟨ms', c, (HO6.out V (Ne.symm nSV)).trans q1, q2⟩) (fun k h1 h2 => (HO6.out k h1).trans (HO5.out k h2)) (by
      obtain ⟨q1, q2, q3, q4⟩ := HZ5.out
      obtain ⟨r1, r2, r3, r4⟩ := HZ6.out
      exact ⟨r2.trans q2, r3.trans q3, r4.trans q4, by omega⟩)
    have hb1 := HW1.out
    have hfr := hfin.2.1
    refine ⟨hfin.1, ?_, fun k' hk' => (hfin.2.2 k' hk').imp id (fun h1 => h1.elim (fun h2 => Nat.le_trans hb1.size h2) (fun h2 => by have := Hb.out; simp only at h2; omega))⟩
    exact ⟨hfr.os.trans hb1.os, hfr.tape.trans hb1.tape, hfr.output.trans hb1.output, Nat.le_trans hb1.size hfr.size, fun k hk hn => (hfr.block k (Nat.lt_of_lt_of_le hk hb1.size) hn).trans (hb1.block k hk)⟩
end Go.Proofs.YtbcmmeajglilbaaGreat
