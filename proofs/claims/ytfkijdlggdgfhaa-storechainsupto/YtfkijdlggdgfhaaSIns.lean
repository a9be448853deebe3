/-
  WHAT Insert LEAVES.
-/
import Derived.Test.YtfkijdlggdgfhaaSFor
namespace Go.Proofs.Ytfkijdlggdgfhaa
open Go.RowKit Go.Sort

theorem ofK_same (x : Vr) (vs : List Vr) : ofK x.k (vs ++ [x]) = ofK x.k vs ++ [x] := by simp [ofK]
theorem ofK_other {k : K} {x : Vr} (h : k ≠ x.k) (vs : List Vr) : ofK k (vs ++ [x]) = ofK k vs := by
  have : ¬ x.k = k := fun e => h e.symm
  simp [ofK, this]
theorem later_trans {a b c : Vr} (h1 : later a b) (h2 : later b c) : later a c := by unfold later at *; omega
theorem insE_ok {cap : Int} {vs : List Vr} {x : Vr} (h : insE cap vs x = 0) : isKey x.k = true ∧ 1 ≤ x.ba ∧ x.ba ≤ 1099511627776 ∧ 0 ≤ x.ix ∧ x.ix ≤ 63 ∧ cap ≠ (vs.length : Int) ∧ ∀ ys y, ofK x.k vs = ys ++ [y] → later x y := by
  unfold insE at h
  by_cases h1 : isKey x.k = false
  · rw [if_pos h1] at h; cases h
  rw [if_neg h1] at h
  by_cases h2 : x.ba < 1 ∨ 1099511627776 < x.ba
  · rw [if_pos h2] at h; cases h
  rw [if_neg h2] at h
  by_cases h3 : x.ix < 0 ∨ 64 ≤ x.ix
  · rw [if_pos h3] at h; cases h
  rw [if_neg h3] at h
  by_cases h4 : cap = (vs.length : Int)
  · rw [if_pos h4] at h; cases h
  rw [if_neg h4] at h
  refine ⟨by simpa using h1, by omega, by omega, by omega, by omega, h4, fun ys y e => ?_⟩
  rw [e] at h
  simp at h
  exact h
theorem SA.ins {w W' : World} {S V D M L P : Nat} {hf : Value} {cap last : Int} {vs : List Vr} {es es' : List En} {R : K → Nat × Nat × Nat} (h : SA w S V D M L P hf cap last vs es R) (x : Vr) (hxn : x.n = last + 1) (hin : KIn x.k ∧ In64 x.ba ∧ In64 x.ix ∧ In64 x.cv) (hE : insE cap vs x = 0) (hl0 : 0 ≤ last ∧ last + 1 ≤ 1000000000000000) (g off cc : Nat)
    (st' : W'.heap[S]? = some (.cells #[.int .i64 (P : Int), .int .i64 cap, .int .i64 (last + 1), .map (some V), ptr D] 70 (0, 0)))
    (vm' : ∃ ms clock, W'.heap[V]? = some (.map ms clock) ∧ ms.toList.map (fun x => (x.key, x.val)) = (vs ++ [x]).map (fun v => (.int .i64 v.n, ptr v.b)))
    (vb' : ∀ v ∈ vs ++ [x], W'.heap[v.b]? = some (.cells (cellsV v) 82 (0, 0))) (da' : DA W' D M L hf P es')
    (e1 : En) (he1 : e1 ∈ es') (hk1 : e1.k = x.k) (hc1 : W'.heap[e1.v]? = some (.cells #[.slice (some ⟨g, off, none⟩) ((ofK x.k vs).length + 1) cc] 100 (0, 0)))
    (hrow : RwV W' g off cc ((ofK x.k vs).map Vr.b ++ [x.b]))
    (hold : ∀ e ∈ es', e.k ≠ x.k → e ∈ es ∧ W'.heap[e.v]? = w.heap[e.v]? ∧ W'.heap[(R e.k).1]? = w.heap[(R e.k).1]? ∧ (R e.k).1 ≠ g)
    (hsub : ∀ e ∈ es, ∃ e' ∈ es', e'.k = e.k) (cb' : (es'.map En.v).Nodup) (hb : ∀ v ∈ vs, v.b ≠ x.b) (hel : es'.length ≤ vs.length + 1) (hph : ∀ e ∈ es', e.p = hash e.k % P) :
    SA W' S V D M L P hf cap (last + 1) (vs ++ [x]) es' (fun k => if k = x.k then (g, off, cc) else R k) := by
  obtain ⟨_, _, _, _, _, hcap, hlt⟩ := insE_ok hE
  have huniq : ∀ e ∈ es', e.k = x.k → e = e1 := fun e he hk => by
    have a := fd_of da'.kn he
    have b := fd_of da'.kn he1
    rw [hk, ← hk1, b] at a
    exact (Option.some.inj a).symm
  refine ⟨st', vm', vb', da', fun e he => ?_, fun e he => ?_, fun e he => ?_, fun e he => ?_, fun v hv => ?_, cb', fun e he e' he' heq => ?_, ?_, fun v hv => ?_, ?_, fun k => ?_, fun v hv => ?_, h.VM, ?_, by simpa using hel, fun e he => ?_, hph, fun v hv => ?_⟩
  · by_cases hk : e.k = x.k
    · rw [huniq e he hk, hk1, if_pos rfl, ofK_same, List.length_append]
      exact hc1
    · rw [if_neg hk, ofK_other hk]
      obtain ⟨h1, h2, _⟩ := hold e he hk
      exact h2.trans (h.ch e h1)
  · by_cases hk : e.k = x.k
    · rw [hk, if_pos rfl, ofK_same]
      have e9 : (ofK x.k vs).map Vr.b ++ [x.b] = (ofK x.k vs ++ [x]).map Vr.b := by simp
      rw [e9] at hrow
      obtain ⟨⟨cur, k1, k2, k3⟩, _⟩ := hrow
      refine ⟨cur, k1, k2, fun j hj => ?_⟩
      rw [k3 j (by rw [List.length_map]; exact hj), List.getElem_map]
    · rw [if_neg hk, ofK_other hk]
      obtain ⟨h1, _, h3, _⟩ := hold e he hk
      obtain ⟨cur, k1, k2⟩ := h.rw e h1
      exact ⟨cur, h3.trans k1, k2⟩
  · by_cases hk : e.k = x.k
    · rw [hk, if_pos rfl, ofK_same]
      have := hrow.le
      simpa using this
    · rw [if_neg hk, ofK_other hk]
      exact h.rl e (hold e he hk).1
  · by_cases hk : e.k = x.k
    · rw [hk, ofK_same]; simp
    · rw [ofK_other hk]
      exact h.ne e (hold e he hk).1
  · rcases List.mem_append.1 hv with hv | hv
    · obtain ⟨e, he, hek⟩ := h.all v hv
      obtain ⟨e', he', hek'⟩ := hsub e he
      exact ⟨e', he', hek'.trans hek⟩
    · simp at hv
      subst hv
      exact ⟨e1, he1, hk1⟩
  · by_cases hk : e.k = x.k
    · by_cases hk' : e'.k = x.k
      · rw [huniq e he hk, huniq e' he' hk']
      · rw [if_pos hk, if_neg hk'] at heq
        exact absurd heq.symm (hold e' he' hk').2.2.2
    · by_cases hk' : e'.k = x.k
      · rw [if_neg hk, if_pos hk'] at heq
        exact absurd heq (hold e he hk).2.2.2
      · rw [if_neg hk, if_neg hk'] at heq
        exact h.rn e (hold e he hk).1 e' (hold e' he' hk').1 heq
  · refine List.pairwise_append.2 ⟨h.nn, List.pairwise_singleton _ _, fun a ha b hb => ?_⟩
    simp at hb
    subst hb
    have := (h.nl a ha).2
    omega
  · rcases List.mem_append.1 hv with hv | hv
    · have := h.nl v hv; omega
    · simp at hv; subst hv; omega
  · rw [List.map_append, List.nodup_append]
    refine ⟨h.bn, by simp, fun a ha c hc => ?_⟩
    obtain ⟨v, hv, rfl⟩ := List.mem_map.1 ha
    simp at hc
    subst hc
    exact hb v hv
  · by_cases hk : k = x.k
    · subst hk
      rw [ofK_same]
      refine List.pairwise_append.2 ⟨h.pl x.k, List.pairwise_singleton _ _, fun a ha c hc => ?_⟩
      simp at hc
      subst hc
      obtain ⟨ys, y, hys⟩ := snoc_of (List.ne_nil_of_mem ha)
      have hy := hlt ys y hys
      have hp := h.pl c.k
      rw [hys] at ha hp
      rcases List.mem_append.1 ha with ha | ha
      · exact later_trans hy ((List.pairwise_append.1 hp).2.2 a ha y (by simp))
      · simp at ha; subst ha; exact hy
    · rw [ofK_other hk]; exact h.pl k
  · rcases List.mem_append.1 hv with hv | hv
    · exact h.inn v hv
    · simp at hv; subst hv; exact hin
  · have := h.lt
    rw [List.length_append, List.length_singleton]
    push_cast
    omega
  · by_cases hk : e.k = x.k
    · rw [if_pos hk]
      exact hrow.cm
    · rw [if_neg hk]
      exact h.cm e (hold e he hk).1
  · rcases List.mem_append.1 hv with hv | hv
    · exact h.ik v hv
    · simp at hv; subst hv; exact (insE_ok hE).1
end Go.Proofs.Ytfkijdlggdgfhaa
