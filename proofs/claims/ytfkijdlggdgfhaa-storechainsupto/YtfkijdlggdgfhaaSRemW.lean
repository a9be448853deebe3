/-
  chainOf, Remove.
-/
import Derived.Test.YtfkijdlggdgfhaaSRem
import Derived.Deep.RegionHeld3
namespace Go.Proofs.Ytfkijdlggdgfhaa
open Go.RowKit Go.Sort

theorem SA.find {w : World} {S V D M L P : Nat} {hf : Value} {cap last : Int} {vs : List Vr} {es : List En} {R : K → Nat × Nat × Nat} (h : SA w S V D M L P hf cap last vs es R) {v : Vr} (hv : v ∈ vs) : ∃ e0 ∈ es, e0.k = v.k ∧ fd es v.k = some e0 := by
  obtain ⟨e, he, hek⟩ := h.all v hv
  exact ⟨e, he, hek, by rw [← hek]; exact fd_of h.da.kn he⟩
set_option maxRecDepth 100000 in
set_option maxHeartbeats 1000000 in
theorem chainOf_any (w : World) (S V D M L P : Nat) (hf : Value) (cap last : Int) (vs : List Vr) (es : List En) (R : K → Nat × Nat × Nat) (v : Vr) (h : SA w S V D M L P hf cap last vs es R) (hv : v ∈ vs) (e0 : En) (hfd : fd es v.k = some e0) :
    Calls Try.prog 39 #[ptr S, ptr v.b] w fun e w' => e = .returned (ptr e0.v) ∧ Below w.heap.size w w' := by
  have HKn : Hid (∀ W, Below w.heap.size w W → W.cell? ⟨S, 4, none⟩ = some (ptr D) ∧ W.cell? ⟨v.b, 3, none⟩ = some (.int .i64 v.k.1) ∧ W.cell? ⟨v.b, 4, none⟩ = some (.int .i64 v.k.2)) := fun W hW => by
    have h2 := h.kept hW
    have := h2.vcells hv
    exact ⟨h2.cells.2.2.2.2, this.2.2.2.1, this.2.2.2.2.1⟩
  have HG : Hid (Calls Try.prog 28 #[ptr D, .agg #[.int .i64 v.k.1, .int .i64 v.k.2]] w.drew fun e w' => e = .returned (.tuple #[ptr e0.v, .bool true]) ∧ Below w.heap.size w w') := by
    have hd : Below w.heap.size w w.drew := ⟨rfl, rfl, rfl, Nat.le_refl _, fun _ _ => rfl⟩
    have hg := get_any w.drew D M L P hf es v.k (h.da.kept hd) (h.inn v hv).1
    rw [hfd] at hg
    exact hg.mono fun e w' ⟨h1, h2⟩ => ⟨h1, hd.trans h2⟩
  obtain ⟨c4, c3, c5⟩ := HKn.out w (Below.refl _ _)
  clear h hfd
  generalize v.k.1 = k1 at *
  generalize v.k.2 = k2 at *
  go_enter Try.func39, Try.ntmps39
  go_upto_region 1 with fail
  go_region_held3 (fun w' => w'.cell? ⟨S, 4, none⟩ = some (ptr D) ∧ w'.cell? ⟨v.b, 3, none⟩ = some (.int .i64 k1) ∧ w'.cell? ⟨v.b, 4, none⟩ = some (.int .i64 k2)) (first | exact HKn.out _ HB3.out | go_keep) (first | (go_at_call 28; refine HG.out.mono ?_; rintro e w3 ⟨rfl, hb3⟩; have HB3 : Hid (Below w.heap.size w w3) := hb3; clear hb3))
  clear c4 c3 c5 HG HKn
  go_wp2
  go_ret
  exact ⟨rfl, HB3.out⟩
/-- what Remove leaves -/
def RemPost (w : World) (S V D M L P : Nat) (hf : Value) (cap last : Int) (vs : List Vr) (es : List En) (R : K → Nat × Nat × Nat) (n : Int) (e : Ending) (w' : World) : Prop :=
  (fv vs n = none ∧ e = .returned (.int .i64 93) ∧ w' = w) ∨
  (∃ A v C es' R', vs = A ++ v :: C ∧ v.n = n ∧ e = .returned (.int .i64 0) ∧ SA w' S V D M L P hf cap last (A ++ C) es' R' ∧ Fr (Fs S V D M L vs es R) w w' ∧ ∀ k', Fs S V D M L (A ++ C) es' R' k' → Fs S V D M L vs es R k')
/-- behind drop, and behind Take if it was the last one -/
structure Gone (w W : World) (S V D M L P : Nat) (hf : Value) (A C : List Vr) (v : Vr) (es es' : List En) (R : K → Nat × Nat × Nat) (off cc : Nat) : Prop where
  da : DA W D M L hf P es'
  sub : es'.Sublist es
  oth : ∀ e ∈ es, e.k ≠ v.k → e ∈ es'
  own : ∀ e ∈ es', e.k = v.k → ofK v.k (A ++ C) ≠ [] ∧ W.heap[e.v]? = some (.cells #[.slice (some ⟨(R v.k).1, off, none⟩) (ofK v.k (A ++ C)).length cc] 100 (0, 0)) ∧ RwV W (R v.k).1 off cc ((ofK v.k (A ++ C)).map Vr.b)
  keep : ofK v.k (A ++ C) ≠ [] → ∃ e ∈ es', e.k = v.k
  old : ∀ e ∈ es', e.k ≠ v.k → W.heap[e.v]? = w.heap[e.v]? ∧ W.heap[(R e.k).1]? = w.heap[(R e.k).1]?
  st : W.heap[S]? = w.heap[S]?
  vm : W.heap[V]? = w.heap[V]?
  vb : ∀ x ∈ A ++ v :: C, W.heap[x.b]? = w.heap[x.b]?
  fr : Fr (Fs S V D M L (A ++ v :: C) es R) w W
section
variable {w w1 w2 : World} {S V D M L P : Nat} {hf : Value} {cap last : Int} {A C : List Vr} {v : Vr} {es : List En} {R : K → Nat × Nat × Nat} {off cc : Nat}
theorem SA.keyEq (h : SA w S V D M L P hf cap last (A ++ v :: C) es R) {e e0 : En} (he : e ∈ es) (he0 : e0 ∈ es) (hk : e.k = e0.k) : e = e0 := by
  have a := fd_of h.da.kn he
  have b := fd_of h.da.kn he0
  rw [hk, b] at a
  exact (Option.some.inj a).symm
/-- what drop leaves of the rest -/
theorem SA.dropped (h : SA w S V D M L P hf cap last (A ++ v :: C) es R) {e0 : En} (he0 : e0 ∈ es) (hk0 : e0.k = v.k) (hb1 : Below w.heap.size w w1) (hd : Drp w1 w2 e0.v (R v.k).1 off cc ((ofK v.k (A ++ C)).map Vr.b)) :
    DA w2 D M L hf P es ∧ (∀ e ∈ es, e.k ≠ v.k → w2.heap[e.v]? = w.heap[e.v]? ∧ w2.heap[(R e.k).1]? = w.heap[(R e.k).1]?) ∧ w2.heap[S]? = w.heap[S]? ∧ w2.heap[V]? = w.heap[V]? ∧ (∀ x ∈ A ++ v :: C, w2.heap[x.b]? = w.heap[x.b]?) ∧ Fr (Fs S V D M L (A ++ v :: C) es R) w w2 := by
  have hb : ∀ k, k < w.heap.size → k ≠ e0.v → k ≠ (R v.k).1 → w2.heap[k]? = w.heap[k]? := fun k hk n1 n2 => (hd.fr.block k (Nat.lt_of_lt_of_le hk hb1.size) (fun e => e.elim n1 n2)).trans (hb1.block k hk)
  obtain ⟨⟨o1, o2, o3⟩, ⟨o4, o5, o6⟩, o7⟩ := h.oth_ne he0
  rw [hk0] at o4 o5 o6 o7
  refine ⟨h.da.same (fun k hk => hb k (h.da.lt hk) (fun e => (h.dict_ne hk).1 e0 he0 e.symm) (fun e => (h.dict_ne hk).2.1 e0 he0 (by rw [hk0]; exact e.symm))), fun e he hne => ⟨?_, ?_⟩, hb S (blk_lt h.st) o1 o4, ?_, fun x hx => hb x.b (blk_lt (h.vb x hx)) (o3 x hx) (o6 x hx), ?_⟩
  · refine hb _ (blk_lt (h.ch e he)) (fun e2 => ?_) (o7 e he)
    have a := h.cb
    obtain ⟨A1, C1, rfl⟩ := List.append_of_mem he
    have hs := nodup_split a
    rcases List.mem_append.1 he0 with m | m
    · exact hs.1 e0 m e2.symm
    · rcases List.mem_cons.1 m with rfl | m
      · exact hne hk0
      · exact hs.2 e0 m e2.symm
  · obtain ⟨_, k1, _⟩ := h.rw e he
    exact hb _ (blk_lt k1) (fun e2 => (h.oth_ne he).2.2 e0 he0 e2.symm) (fun e2 => hne (by rw [h.rn e he e0 he0 (by rw [e2, hk0])]; exact hk0))
  · obtain ⟨_, _, k1, _⟩ := h.vm
    exact hb V (blk_lt k1) o2 o5
  · have z := hd.fr.size
    refine ⟨hd.fr.os.trans hb1.os, hd.fr.tape.trans hb1.tape, hd.fr.output.trans hb1.output, Nat.le_trans hb1.size z, fun k hk hn => hb k hk (fun e => hn (.inr (.inr (.inr (.inr (.inl ⟨e0, he0, e.symm⟩)))))) (fun e => hn (.inr (.inr (.inr (.inr (.inr ⟨e0, he0, by rw [hk0]; exact e.symm⟩))))))⟩
theorem SA.gone1 (h : SA w S V D M L P hf cap last (A ++ v :: C) es R) {e0 : En} (he0 : e0 ∈ es) (hk0 : e0.k = v.k) (hb1 : Below w.heap.size w w1) (hd : Drp w1 w2 e0.v (R v.k).1 off cc ((ofK v.k (A ++ C)).map Vr.b)) (hne : ofK v.k (A ++ C) ≠ []) : Gone w w2 S V D M L P hf A C v es es R off cc := by
  obtain ⟨h1, h2, h3, h4, h5, h6⟩ := h.dropped he0 hk0 hb1 hd
  refine ⟨h1, List.Sublist.refl _, fun e he _ => he, fun e he hk => ⟨hne, ?_, hd.rw⟩, fun _ => ⟨e0, he0, hk0⟩, h2, h3, h4, h5, h6⟩
  rw [h.keyEq he he0 (hk.trans hk0.symm)]
  have := hd.ch
  rwa [List.length_map] at this
theorem SA.gone2 {w3 : World} {A1 C1 : List En} {e0 : En} (h : SA w S V D M L P hf cap last (A ++ v :: C) es R) (hes : es = A1 ++ e0 :: C1) (hk0 : e0.k = v.k) (hb1 : Below w.heap.size w w1) (hd : Drp w1 w2 e0.v (R v.k).1 off cc ((ofK v.k (A ++ C)).map Vr.b)) (hn : ofK v.k (A ++ C) = []) (hda : DA w3 D M L hf P (A1 ++ C1)) (hf3 : Fr (Ft M L es) w2 w3) : Gone w w3 S V D M L P hf A C v es (A1 ++ C1) R off cc := by
  have he0 : e0 ∈ es := by rw [hes]; simp
  obtain ⟨h1, h2, h3, h4, h5, h6⟩ := h.dropped he0 hk0 hb1 hd
  have hsub : (A1 ++ C1).Sublist es := by rw [hes]; exact List.Sublist.append_left (List.sublist_cons_self e0 C1) A1
  have hnk : ∀ e ∈ A1 ++ C1, e.k ≠ v.k := fun e he hk => by
    have a := h.da.kn
    rw [hes] at a
    have hs := nodup_split a
    rcases List.mem_append.1 he with m | m
    · exact hs.1 e m (hk.trans hk0.symm)
    · exact hs.2 e m (hk.trans hk0.symm)
  have hz : w.heap.size ≤ w2.heap.size := h6.size
  have hb3 : ∀ k, k < w.heap.size → ¬ Ft M L es k → w3.heap[k]? = w2.heap[k]? := fun k hk hn => hf3.block k (by omega) hn
  have hnF : ∀ {k}, Ft M L es k → (∀ e ∈ es, e.v ≠ k) ∧ (∀ e ∈ es, (R e.k).1 ≠ k) ∧ (∀ v' ∈ A ++ v :: C, v'.b ≠ k) ∧ S ≠ k ∧ V ≠ k := fun hk => h.dict_ne (.inr hk)
  refine ⟨hda, hsub, fun e he hne => ?_, fun e he hk => absurd hk (hnk e he), fun hne => absurd hn hne, fun e he hne => ?_, (hb3 S (blk_lt h.st) (fun hF => (hnF hF).2.2.2.1 rfl)).trans h3, ?_, fun x hx => (hb3 x.b (blk_lt (h.vb x hx)) (fun hF => (hnF hF).2.2.1 x hx rfl)).trans (h5 x hx), ?_⟩
  · rw [hes] at he
    rcases List.mem_append.1 he with m | m
    · exact List.mem_append.2 (.inl m)
    · rcases List.mem_cons.1 m with rfl | m
      · exact absurd hk0 hne
      · exact List.mem_append.2 (.inr m)
  · have hee := hsub.subset he
    obtain ⟨q1, q2⟩ := h2 e hee hne
    obtain ⟨_, k1, _⟩ := h.rw e hee
    exact ⟨(hb3 _ (blk_lt (h.ch e hee)) (fun hF => (hnF hF).1 e hee rfl)).trans q1, (hb3 _ (blk_lt k1) (fun hF => (hnF hF).2.1 e hee rfl)).trans q2⟩
  · obtain ⟨_, _, k1, _⟩ := h.vm
    exact (hb3 V (blk_lt k1) (fun hF => (hnF hF).2.2.2.2 rfl)).trans h4
  · exact h6.trans hf3 (fun k _ hk => .inr (.inr (.inr (.inl (.inr hk)))))
/-- the number is struck out -/
theorem Gone.fin {W W' : World} {es' : List En} (h : SA w S V D M L P hf cap last (A ++ v :: C) es R) (a : Gone w W S V D M L P hf A C v es es' R off cc)
    (vm' : ∃ ms clock, W'.heap[V]? = some (.map ms clock) ∧ ms.toList.map (fun x => (x.key, x.val)) = (A ++ C).map (fun v => (.int .i64 v.n, ptr v.b)))
    (hs : ∀ k, k ≠ V → W'.heap[k]? = W.heap[k]?) (hos : W'.os = W.os ∧ W'.tape = W.tape ∧ W'.output = W.output ∧ W.heap.size ≤ W'.heap.size) :
    SA W' S V D M L P hf cap last (A ++ C) es' (fun k => if k = v.k then ((R v.k).1, off, cc) else R k) ∧ Fr (Fs S V D M L (A ++ v :: C) es R) w W' ∧ ∀ k', Fs S V D M L (A ++ C) es' (fun k => if k = v.k then ((R v.k).1, off, cc) else R k) k' → Fs S V D M L (A ++ v :: C) es R k' := by
  obtain ⟨sv1, sv2⟩ := h.sv_ne
  obtain ⟨ms0, cl0, v0, _⟩ := h.vm
  have vW : W.heap[V]? = some (.map ms0 cl0) := a.vm.trans v0
  have hD : ∀ k, (k = D ∨ Ft M L es' k) → k ≠ V := fun k hk => by
    have hlt := a.da
    rcases hk with rfl | rfl | rfl | ⟨e', he', rfl⟩
    · exact fun e => by (have := hlt.dc; rw [e, vW] at this; cases this)
    · exact fun e => h.VM e.symm
    · obtain ⟨_, k1, _⟩ := hlt.ln
      exact fun e => by (rw [e, vW] at k1; cases k1)
    · obtain ⟨_, _, k1⟩ := hlt.entry he'
      exact fun e => by (rw [e, vW] at k1; cases k1)
  have hC : ∀ {k : Nat} {cs : Array Value} {t : TypeId}, W.heap[k]? = some (.cells cs t (0, 0)) → k ≠ V := fun {k cs t} hk => fun e => by (rw [e, vW] at hk; cases hk)
  have hm : ∀ x ∈ A ++ C, x ∈ A ++ v :: C := fun x hx => by simp at hx ⊢; exact hx.elim .inl (fun h => .inr (.inr h))
  refine ⟨h.rem off cc ((hs S sv1).trans a.st) vm' (fun x hx => (hs _ (sv2 x (hm x hx)).2).trans (a.vb x (hm x hx))) (a.da.same (fun k hk => hs k (hD k hk))) a.sub a.oth (fun e he hk => ?_) a.keep (fun e he hne => ?_), ?_, ?_⟩
  · obtain ⟨q1, q2, q3⟩ := a.own e he hk
    obtain ⟨⟨cur, k1, _⟩, _⟩ := q3
    exact ⟨q1, (hs _ (hC q2)).trans q2, (a.own e he hk).2.2.same (hs _ (hC k1))⟩
  · obtain ⟨q1, q2⟩ := a.old e he hne
    have hee := a.sub.subset he
    obtain ⟨_, k1, _⟩ := h.rw e hee
    exact ⟨(hs _ (hC (q1.trans (h.ch e hee)))).trans q1, (hs _ (hC (q2.trans k1))).trans q2⟩
  · have := a.fr.size
    exact ⟨hos.1.trans a.fr.os, hos.2.1.trans a.fr.tape, hos.2.2.1.trans a.fr.output, by have := hos.2.2.2; omega, fun k hk hn => (hs k (fun e => hn (.inr (.inl e)))).trans (a.fr.block k hk hn)⟩
  · intro k hk
    rcases hk with rfl | rfl | ⟨x, hx, rfl⟩ | hd | ⟨e, he, rfl⟩ | ⟨e, he, rfl⟩
    · exact .inl rfl
    · exact .inr (.inl rfl)
    · exact .inr (.inr (.inl ⟨x, hm x hx, rfl⟩))
    · refine .inr (.inr (.inr (.inl ?_)))
      rcases hd with rfl | rfl | rfl | ⟨e, he, rfl⟩
      · exact .inl rfl
      · exact .inr (.inl rfl)
      · exact .inr (.inr (.inl rfl))
      · exact .inr (.inr (.inr ⟨e, a.sub.subset he, rfl⟩))
    · exact .inr (.inr (.inr (.inr (.inl ⟨e, a.sub.subset he, rfl⟩))))
    · refine .inr (.inr (.inr (.inr (.inr ⟨e, a.sub.subset he, ?_⟩))))
      simp only
      by_cases hk : e.k = v.k
      · rw [if_pos hk, hk]
      · rw [if_neg hk]
end
end Go.Proofs.Ytfkijdlggdgfhaa
