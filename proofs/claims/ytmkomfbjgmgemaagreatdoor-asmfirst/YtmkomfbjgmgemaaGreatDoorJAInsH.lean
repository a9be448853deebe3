import Derived.Test.YtmkomfbjgmgemaaGreatDoorJAJmp
/-
  ONE INSTRUCTION MORE: the state.
-/
namespace Go.Proofs.YtmkomfbjgmgemaaGreatDoor
open Go.RowKit Go.Sort

theorem own_set {W : World} {base e size g n cap j : Nat} {xs : List Value} (h : W.ownsRow base e size (.slice (some ⟨g, 0, none⟩) n cap) n xs) (u : Value) : (W.setCell ⟨g, j, none⟩ u).ownsRow base e size (.slice (some ⟨g, 0, none⟩) n cap) n (xs.set j u) := by
  obtain ⟨hl, ⟨e1, _⟩ | ⟨g', cap', cur, e1, hb, hg, h1, h2, h3, h4⟩⟩ := h
  · cases e1
  · cases e1
    refine ⟨by rw [List.length_set]; exact hl, .inr ⟨g, cap, cur.setIfInBounds j u, rfl, hb, heap_setCell_same W g j _ _ u hg, h1, h2, by simpa using h3, ?_⟩⟩
    rw [Array.toList_setIfInBounds, List.take_set, h4]
theorem prcs_setCode (Qs : List Pr) (x : Pr) (o : Option Addr) (m c : Nat) (L : List K) : (prcs (Qs ++ [x])).set (Qs.length * 6 + 5) (.slice o m c) = prcs (Qs ++ [{ x with ao := o, n := m, cap := c, L := L }]) := by
  rw [prcs_append, prcs_append, List.set_append_right _ _ (by rw [prcs_length]; omega), prcs_length, show Qs.length * 6 + 5 - Qs.length * 6 = 5 by omega]
  rfl
/-- the open procedure has other code -/
theorem ASt.recode {W W1 W2 : World} {M B line : Nat} {a : As} {Qs : List Pr} {x : Pr} {g cap : Nat} {vn vm vj : Value} {o : Option Addr} {m c : Nat} {L : List K}
    (h : ASt W M B line a (Qs ++ [x]) (.slice (some ⟨g, 0, none⟩) (Qs.length + 1) cap) vn vm vj) (hlp : lastP a = ppOf x)
    (ho : W1.ownsRow M 40 2 (.slice o m c) m (cks L)) (hm : m = L.length) (hg : W.grownBy W1 (cdV x).ownBlock) (hn : (Value.slice o m c).ownBlock = (cdV x).ownBlock ∨ ∃ k, (Value.slice o m c).ownBlock = some k ∧ W.heap.size ≤ k)
    (hin : ∀ k ∈ L, KIn k) (h2 : W2 = W1.setCell ⟨g, Qs.length * 6 + 5, none⟩ (.slice o m c)) :
    ASt W2 M B line (setL a L) (Qs ++ [{ x with ao := o, n := m, cap := c, L := L }]) (.slice (some ⟨g, 0, none⟩) (Qs.length + 1) cap) vn vm vj := by
  have hx := h.code x (by simp)
  have hlen : (Qs ++ [x]).length = Qs.length + 1 := by simp
  obtain ⟨curG, hcG⟩ := own_blk h.lib (g := g) rfl
  have oth : ∀ {base e size n : Nat} {v : Value} {xs : List Value}, W.ownsRow base e size v n xs → e ≠ 40 → W1.ownsRow base e size v n xs := fun hr he => ownGrown hr hx.2 he hg
  have hlib1 : W1.ownsRow M 38 6 (.slice (some ⟨g, 0, none⟩) (Qs.length + 1) cap) (Qs.length + 1) (prcs (Qs ++ [x])) := by
    have h9 := oth h.lib (by decide)
    rw [hlen] at h9
    exact h9
  obtain ⟨curG1, hcG1⟩ := own_blk hlib1 (g := g) rfl
  have hset : ∀ (k : Nat) (cur : Array Value) (t : TypeId), W1.heap[k]? = some (.cells cur t (0, 0)) → t ≠ 38 → W2.heap[k]? = W1.heap[k]? := fun k cur t hk ht => by
    rw [h2]
    exact heap_setCell_other _ _ _ _ (fun e => by
      have e' : k = g := e
      rw [e', hcG1] at hk
      simp only [Option.some.injEq, Obj.cells.injEq] at hk
      exact ht hk.2.1.symm)
  have row : ∀ {base e size n : Nat} {v : Value} {xs : List Value}, W1.ownsRow base e size v n xs → e ≠ 38 → W2.ownsRow base e size v n xs := fun hr he => ownsRow_same hr (fun g' hgg => by
    obtain ⟨cur, hc⟩ := own_blk hr hgg
    exact hset g' _ _ hc he)
  have hpw := List.pairwise_append.1 h.ap
  have hAB1 : AB W1 B line (.slice (some ⟨g, 0, none⟩) (Qs.length + 1) cap) vn a.opn a.begun.1 a.begun.2 vm vj := (hg.block B h.ab.lt (fun e1 => by
    obtain ⟨cur, hc⟩ := own_blk hx.2 e1.symm
    exact h.notB hc (by decide) rfl)).trans h.ab
  refine ⟨(hset B _ _ hAB1 (by decide)).trans hAB1, ?_, ?_, fun y hy => ?_, ?_, row (oth h.nms (by decide)) (by decide), row (oth h.jps (by decide)) (by decide), fun hop => ?_, fun y hy => ?_, h.bm.1, ?_⟩
  · unfold OwnP
    rw [← prcs_setCode Qs x o m c L, h2, List.length_append]
    exact own_set hlib1 (.slice o m c)
  · show (a.lib.dropLast ++ [{ lastP a with L := L }]) = _
    rw [h.eq, hlp]
    simp [ppOf]
  · rcases List.mem_append.1 hy with hy | hy
    · have hq := h.code y (by simp [hy])
      refine ⟨hq.1, row (ownsRow_same hq.2 (fun g' hgg => hg.block g' (World.ownsRow.lt hq.2 g' hgg).2 (fun e1 => ?_))) (by decide)⟩
      exact hpw.2.2 y hy x (by simp) g' hgg e1.symm
    · simp only [List.mem_singleton] at hy
      subst hy
      exact ⟨hm, row ho (by decide)⟩
  · refine List.pairwise_append.2 ⟨hpw.1, List.pairwise_singleton _ _, fun y hy z hz g' hgg e1 => ?_⟩
    simp only [List.mem_singleton] at hz
    subst hz
    have hq := h.code y (by simp [hy])
    have e2 : (Value.slice o m c).ownBlock = some g' := e1
    rcases hn with h9 | ⟨k, h9, h10⟩
    · exact hpw.2.2 y hy x (by simp) g' hgg (h9 ▸ e2)
    · rw [h9] at e2
      cases e2
      have := (World.ownsRow.lt hq.2 g' hgg).2
      omega
  · obtain ⟨mb, h5, h6, h7⟩ := h.lab hop
    refine ⟨mb, h5, h6, (h7.grown hx.2 hg).same ?_⟩
    rw [h2]
    exact heap_setCell_other _ _ _ _ (fun e => by
      have e' : mb = g := e
      obtain ⟨D, ⟨es, clock, hb, _⟩, _⟩ := h7
      rw [e', hcG] at hb
      cases hb)
  · rcases List.mem_append.1 hy with hy | hy
    · exact h.ok y (by simp [hy])
    · simp only [List.mem_singleton] at hy
      subst hy
      exact ⟨(h.ok x (by simp)).1, hin, (h.ok x (by simp)).2.2⟩
  · have h5 := hg.size
    have h6 := h.bm.2
    rw [h2]
    simp
    omega
/-- a box of an instruction turns -/
theorem ASt.setBox {W : World} {M B line : Nat} {a : As} {Ps : List Pr} {vl vn vm vj : Value} (h : ASt W M B line a Ps vl vn vm vj) {b i : Nat} {cur : Array Value} (v : Value) (hb : W.heap[b]? = some (.cells cur 40 (0, 0))) (hc : ∀ x ∈ Ps, (cdV x).ownBlock ≠ some b) : ASt (W.setCell ⟨b, i, none⟩ v) M B line a Ps vl vn vm vj := by
  have hset : ∀ (k : Nat) (o : Obj), W.heap[k]? = some o → (∀ cur, o ≠ .cells cur 40 (0, 0)) → (W.setCell ⟨b, i, none⟩ v).heap[k]? = some o := fun k o hk ho => (heap_setCell_other _ _ _ _ (fun e => by
    have e' : k = b := e
    rw [e', hb] at hk
    cases hk
    exact ho cur rfl)).trans hk
  have row : ∀ {base e size n : Nat} {v' : Value} {xs : List Value}, W.ownsRow base e size v' n xs → e ≠ 40 → (W.setCell ⟨b, i, none⟩ v).ownsRow base e size v' n xs := fun hr he => ownsRow_same hr (fun g' hgg => by
    obtain ⟨cur', hc'⟩ := own_blk hr hgg
    rw [hc']
    exact hset g' _ hc' (fun cur'' e => by
      simp only [Obj.cells.injEq] at e
      exact he e.2.1))
  refine ⟨hset B _ h.ab (fun cur' e => by simp only [Obj.cells.injEq] at e; exact absurd e.2.1 (by decide)), row h.lib (by decide), h.eq, fun x hx => ⟨(h.code x hx).1, ownsRow_same (h.code x hx).2 (fun g' hgg => heap_setCell_other _ _ _ _ (fun e => hc x hx (by rw [hgg]; exact congrArg some e)))⟩, h.ap, row h.nms (by decide), row h.jps (by decide), fun hop => ?_, h.ok, h.bm.1, by simpa using h.bm.2⟩
  obtain ⟨mb, h5, h6, h7⟩ := h.lab hop
  refine ⟨mb, h5, h6, h7.same ?_⟩
  obtain ⟨D, ⟨es, clock, hb', _⟩, _⟩ := h7
  rw [hb']
  exact hset mb _ hb' (fun cur' e => by cases e)
theorem cks_appA (A C : List K) : cks (A ++ C) = cks A ++ cks C := by
  induction A with
  | nil => rfl
  | cons k A ih => simp [cks, ih]
end Go.Proofs.YtmkomfbjgmgemaaGreatDoor
