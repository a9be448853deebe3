/-
  A KEY WITHOUT A CHAIN; THE END OF Insert.
-/
import Derived.Test.YtfkijdlggdgfhaaSAft
namespace Go.Proofs.Ytfkijdlggdgfhaa
open Go.RowKit Go.Sort

/-- a key that has none -/
theorem SA.aft_new {w w2 w3 w4 : World} {S V D M L P : Nat} {hf : Value} {cap last : Int} {vs : List Vr} {es : List En} {R : K → Nat × Nat × Nat} (h : SA w S V D M L P hf cap last vs es R) (x : Vr) (hx : w.heap[x.b]? = some (.cells (cellsV x) 82 (0, 0))) (hxb : ∀ k, Fs S V D M L vs es R k → x.b ≠ k) (h2 : Below w.heap.size w w2) {c g off cc E pp : Nat} (hpp : pp = hash x.k % P) (hc : w.heap.size ≤ c) (hE : w.heap.size ≤ E)
    (ha : Add w2 w3 c x.b none ((ofK x.k vs).map Vr.b) g off cc) (hd : DA w4 D M L hf P (es ++ [⟨E, x.k, c, pp⟩])) (hp : Fr (Ft M L es) w3 w4) : Aft w w4 S V D M L P hf vs es (es ++ [⟨E, x.k, c, pp⟩]) R x ⟨E, x.k, c, pp⟩ g off cc := by
  have z2 := h2.size
  have z3 := ha.fr.size
  have hb3 : ∀ k, k < w.heap.size → ¬ Ft M L es k → w4.heap[k]? = w.heap[k]? := fun k hk n3 => by
    refine (hp.block k (by omega) n3).trans ((ha.fr.block k (by omega) (fun e => ?_)).trans (h2.block k hk))
    rcases e with e | e
    · omega
    · cases e
  have hft : ∀ k, Ft M L es k → Fs S V D M L vs es R k := fun k hk => .inr (.inr (.inr (.inl (.inr hk))))
  have hnF : ∀ {k}, Ft M L es k → (∀ e ∈ es, e.v ≠ k) ∧ (∀ e ∈ es, (R e.k).1 ≠ k) ∧ (∀ v ∈ vs, v.b ≠ k) ∧ S ≠ k ∧ V ≠ k := fun hk => h.dict_ne (.inr hk)
  have hgn : w2.heap.size ≤ g := by
    rcases ha.wh with e | e
    · cases e
    · exact e
  have keep4 : ∀ k, k < w3.heap.size → w.heap.size ≤ k → w4.heap[k]? = w3.heap[k]? := fun k hk hn => hp.block k hk (fun hF => by have := h.lt' (hft k hF); omega)
  have hel : ∀ e ∈ es ++ [⟨E, x.k, c, pp⟩], e.k ≠ x.k → e ∈ es := fun e he hne => by
    rcases List.mem_append.1 he with he | he
    · exact he
    · simp at he; subst he; exact absurd rfl hne
  refine ⟨hd, by simp, rfl, ?_, ha.rw.same ?_, fun e he hne => ⟨hel e he hne, ?_, ?_, ?_⟩, fun e he => ⟨e, by simp [he], rfl⟩, ?_, ?_, ?_, fun v hv => ?_, ?_, ?_, by simp, ⟨fun e he => ?_, .inl (by omega)⟩, fun e he => by
    rcases List.mem_append.1 he with he | he
    · exact h.ph e he
    · simp at he; subst he; exact hpp⟩
  · have := ha.bx
    rw [List.length_map] at this
    exact (keep4 _ (blk_lt this) hc).trans this
  · obtain ⟨⟨cur, k1, _⟩, _⟩ := ha.rw
    exact keep4 g (blk_lt k1) (by omega)
  · exact hb3 _ (blk_lt (h.ch e (hel e he hne))) (fun hF => (hnF hF).1 e (hel e he hne) rfl)
  · obtain ⟨_, k1, _⟩ := h.rw e (hel e he hne)
    exact hb3 _ (blk_lt k1) (fun hF => (hnF hF).2.1 e (hel e he hne) rfl)
  · intro e2
    obtain ⟨_, k1, _⟩ := h.rw e (hel e he hne)
    have := blk_lt k1
    omega
  · rw [List.map_append, List.nodup_append]
    refine ⟨h.cb, by simp, fun a ha' b hb' => ?_⟩
    obtain ⟨e, he, rfl⟩ := List.mem_map.1 ha'
    simp at hb'
    subst hb'
    have := blk_lt (h.ch e he)
    omega
  · exact hb3 S (blk_lt h.st) (fun hF => (hnF hF).2.2.2.1 rfl)
  · obtain ⟨_, _, k1, _⟩ := h.vm
    exact hb3 V (blk_lt k1) (fun hF => (hnF hF).2.2.2.2 rfl)
  · exact hb3 v.b (blk_lt (h.vb v hv)) (fun hF => (hnF hF).2.2.1 v hv rfl)
  · exact (hb3 x.b (blk_lt hx) (fun hF => hxb _ (hft _ hF) rfl)).trans hx
  · have z4 := hp.size
    exact ⟨hp.os.trans (ha.fr.os.trans h2.os), hp.tape.trans (ha.fr.tape.trans h2.tape), hp.output.trans (ha.fr.output.trans h2.output), by omega, fun k hk hn => hb3 k hk (fun hF => hn (hft k hF))⟩
  · rcases List.mem_append.1 he with he | he
    · exact .inl he
    · simp at he; subst he; exact .inr ⟨hE, hc⟩
/-- the number is told, and kept -/
theorem Aft.fin {w W W' : World} {S V D M L P : Nat} {hf : Value} {cap last : Int} {vs : List Vr} {es es' : List En} {R : K → Nat × Nat × Nat} {x : Vr} {e1 : En} {g off cc : Nat} (h : SA w S V D M L P hf cap last vs es R) (a : Aft w W S V D M L P hf vs es es' R x e1 g off cc) (hxn : x.n = last + 1) (hin : KIn x.k ∧ In64 x.ba ∧ In64 x.ix ∧ In64 x.cv) (hE : insE cap vs x = 0) (hl0 : 0 ≤ last ∧ last + 1 ≤ 1000000000000000) (hxb : ∀ k, Fs S V D M L vs es R k → x.b ≠ k)
    (st' : W'.heap[S]? = some (.cells #[.int .i64 (P : Int), .int .i64 cap, .int .i64 (last + 1), .map (some V), ptr D] 70 (0, 0)))
    (vm' : ∃ ms clock, W'.heap[V]? = some (.map ms clock) ∧ ms.toList.map (fun x => (x.key, x.val)) = (vs ++ [x]).map (fun v => (.int .i64 v.n, ptr v.b)))
    (hs : ∀ k, k ≠ S → k ≠ V → W'.heap[k]? = W.heap[k]?) (hos : W'.os = W.os ∧ W'.tape = W.tape ∧ W'.output = W.output ∧ W.heap.size ≤ W'.heap.size) :
    SA W' S V D M L P hf cap (last + 1) (vs ++ [x]) es' (fun k => if k = x.k then (g, off, cc) else R k) ∧ Fr (Fs S V D M L vs es R) w W' ∧ ∀ k, Fs S V D M L (vs ++ [x]) es' (fun k => if k = x.k then (g, off, cc) else R k) k → Fs S V D M L vs es R k ∨ w.heap.size ≤ k ∨ k = x.b := by
  obtain ⟨sv1, sv2⟩ := h.sv_ne
  have sW : W.heap[S]? = some (.cells #[.int .i64 (P : Int), .int .i64 cap, .int .i64 last, .map (some V), ptr D] 70 (0, 0)) := a.st.trans h.st
  obtain ⟨ms0, cl0, v0, _⟩ := h.vm
  have vW : W.heap[V]? = some (.map ms0 cl0) := a.vm.trans v0
  have hD : ∀ k, (k = D ∨ Ft M L es' k) → k ≠ S ∧ k ≠ V := fun k hk => by
    have hlt := a.da
    rcases hk with rfl | rfl | rfl | ⟨e', he', rfl⟩
    · exact ⟨fun e => by (have := hlt.dc; rw [e, sW] at this; exact ty_ne this (by decide)), fun e => by (have := hlt.dc; rw [e, vW] at this; cases this)⟩
    · obtain ⟨_, _, k1, _⟩ := hlt.mp
      exact ⟨fun e => by (rw [e, sW] at k1; cases k1), fun e => h.VM e.symm⟩
    · obtain ⟨_, k1, _⟩ := hlt.ln
      exact ⟨fun e => by (rw [e, sW] at k1; exact ty_ne k1 (by decide)), fun e => by (rw [e, vW] at k1; cases k1)⟩
    · obtain ⟨_, _, k1⟩ := hlt.entry he'
      exact ⟨fun e => by (rw [e, sW] at k1; exact ty_ne k1 (by decide)), fun e => by (rw [e, vW] at k1; cases k1)⟩
  have hC : ∀ {k : Nat} {cs : Array Value}, W.heap[k]? = some (.cells cs 100 (0, 0)) → k ≠ S ∧ k ≠ V := fun {k cs} hk => ⟨fun e => by (rw [e, sW] at hk; exact ty_ne hk (by decide)), fun e => by (rw [e, vW] at hk; cases hk)⟩
  have hRw : ∀ {k : Nat} {cs : Array Value}, W.heap[k]? = some (.cells cs 83 (0, 0)) → k ≠ S ∧ k ≠ V := fun {k cs} hk => ⟨fun e => by (rw [e, sW] at hk; exact ty_ne hk (by decide)), fun e => by (rw [e, vW] at hk; cases hk)⟩
  refine ⟨h.ins x hxn hin hE hl0 g off cc st' vm' (fun v hv => ?_) (a.da.same (fun k hk => hs k (hD k hk).1 (hD k hk).2)) e1 a.he1 a.hk1 ((hs _ (hC a.hc1).1 (hC a.hc1).2).trans a.hc1) (a.hrow.same ?_) (fun e he hne => ?_) a.hsub a.cb (fun v hv e => hxb v.b (.inr (.inr (.inl ⟨v, hv, rfl⟩))) e.symm) (by have := a.el; have := h.el; omega) a.ph, ?_, ?_⟩
  · rcases List.mem_append.1 hv with hv | hv
    · exact (hs _ (sv2 v hv).1 (sv2 v hv).2).trans ((a.vb v hv).trans (h.vb v hv))
    · simp at hv
      subst hv
      exact (hs _ (hxb S (.inl rfl)) (hxb V (.inr (.inl rfl)))).trans a.xb
  · obtain ⟨⟨cur, k1, _⟩, _⟩ := a.hrow
    exact hs g (hRw k1).1 (hRw k1).2
  · obtain ⟨h1, h2, h3, h4⟩ := a.hold e he hne
    obtain ⟨_, k1, _⟩ := h.rw e h1
    have c1 := hC (h2.trans (h.ch e h1))
    have c2 := hRw (h3.trans k1)
    exact ⟨h1, (hs _ c1.1 c1.2).trans h2, (hs _ c2.1 c2.2).trans h3, h4⟩
  · have := a.fr.size
    exact ⟨hos.1.trans a.fr.os, hos.2.1.trans a.fr.tape, hos.2.2.1.trans a.fr.output, by have := hos.2.2.2; omega, fun k hk hn => (hs k (fun e => hn (.inl e)) (fun e => hn (.inr (.inl e)))).trans (a.fr.block k hk hn)⟩
  · intro k hk
    have ft : ∀ k, (k = D ∨ Ft M L es k) → Fs S V D M L vs es R k := fun k hk => .inr (.inr (.inr (.inl hk)))
    rcases hk with rfl | rfl | ⟨v, hv, rfl⟩ | hd | ⟨e, he, rfl⟩ | ⟨e, he, rfl⟩
    · exact .inl (.inl rfl)
    · exact .inl (.inr (.inl rfl))
    · rcases List.mem_append.1 hv with hv | hv
      · exact .inl (.inr (.inr (.inl ⟨v, hv, rfl⟩)))
      · simp at hv; subst hv; exact .inr (.inr rfl)
    · rcases hd with rfl | rfl | rfl | ⟨e, he, rfl⟩
      · exact .inl (ft _ (.inl rfl))
      · exact .inl (ft _ (.inr (.inl rfl)))
      · exact .inl (ft _ (.inr (.inr (.inl rfl))))
      · rcases a.nw.1 e he with h1 | h1
        · exact .inl (ft _ (.inr (.inr (.inr ⟨e, h1, rfl⟩))))
        · exact .inr (.inl h1.1)
    · rcases a.nw.1 e he with h1 | h1
      · exact .inl (.inr (.inr (.inr (.inr (.inl ⟨e, h1, rfl⟩)))))
      · exact .inr (.inl h1.2)
    · simp only
      by_cases hk : e.k = x.k
      · rw [if_pos hk]
        rcases a.nw.2 with h1 | ⟨h1, e', he', hk'⟩
        · exact .inr (.inl h1)
        · exact .inl (.inr (.inr (.inr (.inr (.inr ⟨e', he', by rw [hk']; exact h1.symm⟩)))))
      · rw [if_neg hk]
        exact .inl (.inr (.inr (.inr (.inr (.inr ⟨e, (a.hold e he hk).1, rfl⟩)))))
end Go.Proofs.Ytfkijdlggdgfhaa
