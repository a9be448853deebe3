/-
  A Dict AS A LIST OF PAIRS; THREE OF THEM SIDE BY SIDE.
-/
import Derived.Test.YtghfofjpoeckkaaHSpr
namespace Go.Proofs.Ytghfofjpoeckkaa
open Go.RowKit Go.Sort

/-- a Dict that holds the pairs l; its blocks are X -/
def DO (f : Nat) (hh : K → Nat) (P D : Nat) (l : List (K × (Int × Int))) (X : Nat → Prop) (W : World) : Prop := ∃ M L es, DA W D M L (hfn f) P es ∧ HsOK hh P es ∧ kvs es = l ∧ X = (fun k => k = D ∨ Ft M L es k)
/-- no block of a Dict -/
def NoD (T : TypeId) : Prop := T ≠ 43 ∧ T ≠ TL ∧ T ≠ TE
def OpR (f : Nat) (hh : K → Nat) (P D : Nat) (X : Nat → Prop) (W : World) (r : Value) (b : Bool) (l' : List (K × (Int × Int))) (e : Ending) (w' : World) : Prop :=
  e = .returned (.tuple #[r, .bool b]) ∧ ∃ X', DO f hh P D l' X' w' ∧ Fr X W w' ∧ ∀ x, X' x → x < W.heap.size → X x
section
variable {f P D : Nat} {hh : K → Nat} {l : List (K × (Int × Int))} {X : Nat → Prop} {W W' : World}
theorem DO.lt (h : DO f hh P D l X W) {k : Nat} (hk : X k) : k < W.heap.size := by
  obtain ⟨M, L, es, hd, _, _, rfl⟩ := h
  exact hd.lt hk
theorem DO.same (h : DO f hh P D l X W) (hs : ∀ k, X k → W'.heap[k]? = W.heap[k]?) : DO f hh P D l X W' := by
  obtain ⟨M, L, es, hd, h1, h2, rfl⟩ := h
  exact ⟨M, L, es, hd.same hs, h1, h2, rfl⟩
theorem DO.noT (h : DO f hh P D l X W) {x : Nat} {cs : Array Value} {T : TypeId} (hx : W.heap[x]? = some (.cells cs T (0, 0))) (hT : NoD T) : ¬ X x := by
  obtain ⟨M, L, es, hd, _, _, rfl⟩ := h
  rintro (rfl | rfl | rfl | ⟨e, he, rfl⟩)
  · have := hd.dc; rw [hx] at this; simp only [Option.some.injEq, Obj.cells.injEq] at this; exact hT.1 this.2.1
  · obtain ⟨_, _, h1, _⟩ := hd.mp; rw [hx] at h1; cases h1
  · obtain ⟨_, h1, _⟩ := hd.ln; rw [hx] at h1; simp only [Option.some.injEq, Obj.cells.injEq] at h1; exact hT.2.1 h1.2.1
  · obtain ⟨_, _, h1⟩ := hd.entry he; rw [hx] at h1; simp only [Option.some.injEq, Obj.cells.injEq] at h1; exact hT.2.2 h1.2.1
theorem DO.nodup (h : DO f hh P D l X W) : (l.map Prod.fst).Nodup ∧ ∀ p ∈ l, KIn p.1 := by
  obtain ⟨M, L, es, hd, _, rfl, _⟩ := h
  refine ⟨?_, fun p hp => ?_⟩
  · have : (kvs es).map Prod.fst = es.map En.k := by simp [kvs, Function.comp_def]
    rw [this]; exact hd.kn
  · obtain ⟨e, he, rfl⟩ := List.mem_map.1 hp
    exact (hd.pp e he).2.1
theorem kvs_get (es : List En) (j : Nat) (hj : j < (kvs es).length) : (kvs es)[j] = ((es[j]'(by rw [kvs_len] at hj; exact hj)).k, (es[j]'(by rw [kvs_len] at hj; exact hj)).v) := by simp [kvs]
theorem key_at {es : List En} (hn : (es.map En.k).Nodup) {i j : Nat} (hi : i < es.length) (hj : j < es.length) (h : es[i].k = es[j].k) : i = j := by
  have hp := List.pairwise_iff_getElem.1 hn
  rcases Nat.lt_trichotomy i j with h1 | h1 | h1
  · exact absurd (show (es.map En.k)[i]'(by simpa using hi) = (es.map En.k)[j]'(by simpa using hj) by rw [List.getElem_map, List.getElem_map]; exact h) (hp i j (by simpa using hi) (by simpa using hj) h1)
  · exact h1
  · exact absurd (show (es.map En.k)[j]'(by simpa using hj) = (es.map En.k)[i]'(by simpa using hi) by rw [List.getElem_map, List.getElem_map]; exact h.symm) (hp j i (by simpa using hj) (by simpa using hi) h1)
theorem DO.putOld (h : DO f hh P D l X W) (k : K) (v : Int × Int) (hk : KIn k) (j : Nat) (hj : j < l.length) (hjk : l[j].1 = k) :
    Calls Try.prog 8 #[ptr D, kv k, vp v] W fun e w' => OpR f hh P D X W (vp l[j].2) true (l.set j (k, v)) e w' := by
  obtain ⟨M, L, es, hd, hs, rfl, rfl⟩ := h
  have hj' : j < es.length := by rw [kvs_len] at hj; exact hj
  rw [kvs_get es j hj] at hjk ⊢
  simp only at hjk ⊢
  have hf : fd es k = some es[j] := by rw [← hjk]; exact fd_of hd.kn (List.getElem_mem hj')
  refine (put_old W D M L P (hfn f) es k v hd hk es[j] hf).mono ?_
  rintro e w' ⟨rfl, h1, h2⟩
  refine ⟨rfl, _, ⟨M, L, _, h1, fun e he => ?_, ?_, rfl⟩, ⟨h2.os, h2.tape, h2.output, h2.size, fun x hx hn => h2.block x hx (fun hF => hn (.inr hF))⟩, fun x hx _ => ?_⟩
  · obtain ⟨y, hy, rfl⟩ := List.mem_map.1 he
    rw [ud_p, ud_k]; exact hs y hy
  · apply List.ext_getElem (by simp [kvs])
    intro i h3 h4
    have hi : i < es.length := by simpa [kvs] using h3
    simp only [kvs, List.getElem_map, List.getElem_set]
    by_cases hij : j = i
    · subst hij
      rw [if_pos rfl, ud_k, hjk]
      unfold ud
      rw [if_pos hjk]
    · rw [if_neg hij]
      have hne : es[i].k ≠ k := fun e => hij (key_at hd.kn hj' hi (by rw [hjk, e]))
      unfold ud
      rw [if_neg hne]
  · rcases hx with hx | hx | hx | ⟨e, he, hx⟩
    · exact .inl hx
    · exact .inr (.inl hx)
    · exact .inr (.inr (.inl hx))
    · obtain ⟨y, hy, rfl⟩ := List.mem_map.1 he
      exact .inr (.inr (.inr ⟨y, hy, by rw [← hx, ud_b]⟩))
theorem DO.putNew (h : DO f hh P D l X W) (hok : PartOK f hh) (k : K) (v : Int × Int) (hk : KIn k) (hn : ∀ p ∈ l, p.1 ≠ k) (hlen : l.length ≤ 140737488355328) :
    Calls Try.prog 8 #[ptr D, kv k, vp v] W fun e w' => OpR f hh P D X W (vp (0, 0)) false (l ++ [(k, v)]) e w' := by
  obtain ⟨M, L, es, hd, hs, rfl, rfl⟩ := h
  have hf : fd es k = none := List.find?_eq_none.2 fun e he => by
    have := hn (e.k, e.v) (List.mem_map.2 ⟨e, he, rfl⟩)
    simpa using this
  refine (put_new W D M L P f hh hok es k v hd hk hf (by rw [kvs_len] at hlen; exact hlen)).mono ?_
  rintro e w' ⟨E, rfl, h1, hE, h2⟩
  refine ⟨rfl, _, ⟨M, L, _, h1, fun e he => ?_, by simp [kvs], rfl⟩, ⟨h2.os, h2.tape, h2.output, h2.size, fun x hx hn => h2.block x hx (fun hF => hn (.inr hF))⟩, fun x hx hlt => ?_⟩
  · rcases List.mem_append.1 he with he | he
    · exact hs e he
    · simp at he; subst he; rfl
  · rcases hx with hx | hx | hx | ⟨e, he, hx⟩
    · exact .inl hx
    · exact .inr (.inl hx)
    · exact .inr (.inr (.inl hx))
    · rcases List.mem_append.1 he with he | he
      · exact .inr (.inr (.inr ⟨e, he, hx⟩))
      · simp at he; subst he; simp only at hx; omega
theorem DO.takeOld (h : DO f hh P D l X W) (k : K) (hk : KIn k) (j : Nat) (hj : j < l.length) (hjk : l[j].1 = k) (hlen : l.length ≤ 140737488355328) :
    Calls Try.prog 7 #[ptr D, kv k] W fun e w' => OpR f hh P D X W (vp l[j].2) true (l.eraseIdx j) e w' := by
  obtain ⟨M, L, es, hd, hs, rfl, rfl⟩ := h
  have hj' : j < es.length := by rw [kvs_len] at hj; exact hj
  rw [kvs_get es j hj] at hjk ⊢
  simp only at hjk ⊢
  have hf : fd es k = some es[j] := by rw [← hjk]; exact fd_of hd.kn (List.getElem_mem hj')
  refine (take_some W D M L P (hfn f) es k hd hk es[j] hf (by rw [kvs_len] at hlen; exact hlen)).mono ?_
  rintro e w' ⟨rfl, ⟨A, C, hes, h1⟩, h2⟩
  have hA : A.length = j := by
    have h3 : A.length < es.length := by rw [hes]; simp
    have h4 : es[A.length] = es[j] := by
      have : es[A.length]? = some es[j] := by
        conv => lhs; rw [hes]
        simp
      rw [List.getElem?_eq_getElem h3] at this
      exact Option.some.inj this
    exact key_at hd.kn h3 hj' (by rw [h4])
  refine ⟨rfl, _, ⟨M, L, _, h1, fun e he => hs e ?_, ?_, rfl⟩, ⟨h2.os, h2.tape, h2.output, h2.size, fun x hx hn => h2.block x hx (fun hF => hn (.inr hF))⟩, fun x hx _ => ?_⟩
  · rw [hes]
    rcases List.mem_append.1 he with he | he <;> simp [he]
  · have h5 : (kvs es).eraseIdx j = kvs (es.eraseIdx j) := by unfold kvs; rw [ChangeMaps.map_eraseIdx]
    have h6 : ∀ (x : En) (i : Nat), A.length = i → (A ++ x :: C).eraseIdx i = A ++ C := fun x i hi => by
      rw [← hi, List.eraseIdx_append_of_length_le (Nat.le_refl _)]
      simp
    rw [h5, ← h6 es[j] j hA, ← hes]
  · rcases hx with hx | hx | hx | ⟨e, he, hx⟩
    · exact .inl hx
    · exact .inr (.inl hx)
    · exact .inr (.inr (.inl hx))
    · refine .inr (.inr (.inr ⟨e, ?_, hx⟩))
      rw [hes]
      rcases List.mem_append.1 he with he | he <;> simp [he]
theorem DO.takeNew (h : DO f hh P D l X W) (k : K) (hk : KIn k) (hn : ∀ p ∈ l, p.1 ≠ k) :
    Calls Try.prog 7 #[ptr D, kv k] W fun e w' => OpR f hh P D X W (vp (0, 0)) false l e w' := by
  have h0 := h
  obtain ⟨M, L, es, hd, hs, rfl, rfl⟩ := h
  have hf : fd es k = none := List.find?_eq_none.2 fun e he => by
    have := hn (e.k, e.v) (List.mem_map.2 ⟨e, he, rfl⟩)
    simpa using this
  refine (take_none W D M L P (hfn f) es k hd hk hf).mono ?_
  rintro e w' ⟨rfl, h1⟩
  exact ⟨rfl, _, h0.same (fun x hx => h1.block x (hd.lt hx)), Fr.ofBelow h1, fun x hx _ => hx⟩
end
/-- what is no Dict's stays -/
structure FrT (W W' : World) : Prop where
  os : W'.os = W.os
  tape : W'.tape = W.tape
  output : W'.output = W.output
  size : W.heap.size ≤ W'.heap.size
  block : ∀ (x : Nat) (cs : Array Value) (T : TypeId), W.heap[x]? = some (.cells cs T (0, 0)) → NoD T → W'.heap[x]? = some (.cells cs T (0, 0))
abbrev fS : Nat := 5
abbrev fL : Nat := 6
abbrev fN : Nat := 11
/-- the three -/
def T3 (n0 Pa Pb Da Db Dc : Nat) (la lb lc : List (K × (Int × Int))) (W : World) : Prop :=
  ∃ Xa Xb Xc, (DO fS hShort Pa Da la Xa W ∧ DO fL hLong Pb Db lb Xb W ∧ DO fN hash0 256 Dc lc Xc W) ∧ (∀ k, Xa k → ¬ Xb k) ∧ (∀ k, Xa k → ¬ Xc k) ∧ (∀ k, Xb k → ¬ Xc k) ∧ ∀ k, Xa k ∨ Xb k ∨ Xc k → n0 ≤ k
theorem T3.same {n0 Pa Pb Da Db Dc : Nat} {la lb lc : List (K × (Int × Int))} {W W' : World} (h : T3 n0 Pa Pb Da Db Dc la lb lc W) (hb : Below W.heap.size W W') : T3 n0 Pa Pb Da Db Dc la lb lc W' := by
  obtain ⟨Xa, Xb, Xc, ⟨ha, hb', hc⟩, r⟩ := h
  exact ⟨Xa, Xb, Xc, ⟨ha.same fun k hk => hb.block k (ha.lt hk), hb'.same fun k hk => hb.block k (hb'.lt hk), hc.same fun k hk => hb.block k (hc.lt hk)⟩, r⟩
theorem frT_of {f P D : Nat} {hh : K → Nat} {l : List (K × (Int × Int))} {X : Nat → Prop} {W W' : World} (h : DO f hh P D l X W) (hf : Fr X W W') : FrT W W' :=
  ⟨hf.os, hf.tape, hf.output, hf.size, fun x _ _ hx hT => (hf.block x (blk_lt hx) (h.noT hx hT)).trans hx⟩
theorem T3.opA {n0 Pa Pb Da Db Dc : Nat} {la lb lc : List (K × (Int × Int))} {W : World} (h : T3 n0 Pa Pb Da Db Dc la lb lc W) (hn : n0 ≤ W.heap.size) {fn : Nat} {args : Array Value} {r : Value} {b : Bool} {l' : List (K × (Int × Int))}
    (hop : ∀ X, DO fS hShort Pa Da la X W → Calls Try.prog fn args W fun e w' => OpR fS hShort Pa Da X W r b l' e w') : Calls Try.prog fn args W fun e w' => e = .returned (.tuple #[r, .bool b]) ∧ T3 n0 Pa Pb Da Db Dc l' lb lc w' ∧ FrT W w' ∧ Below n0 W w' := by
  obtain ⟨Xa, Xb, Xc, ⟨ha, hb, hc⟩, d1, d2, d3, ge⟩ := h
  refine (hop Xa ha).mono ?_
  rintro e w' ⟨rfl, X', h1, hf, hs⟩
  refine ⟨rfl, ⟨X', Xb, Xc, ⟨h1, hb.same fun k hk => hf.block k (hb.lt hk) (fun h => d1 k h hk), hc.same fun k hk => hf.block k (hc.lt hk) (fun h => d2 k h hk)⟩, fun k h2 h3 => d1 k (hs k h2 (hb.lt h3)) h3, fun k h2 h3 => d2 k (hs k h2 (hc.lt h3)) h3, d3, fun k hk => ?_⟩, frT_of ha hf, hf.below hn fun k hk => ge k (.inl hk)⟩
  rcases hk with hk | hk | hk
  · by_cases hlt : k < W.heap.size
    · exact ge k (.inl (hs k hk hlt))
    · omega
  · exact ge k (.inr (.inl hk))
  · exact ge k (.inr (.inr hk))
theorem T3.opB {n0 Pa Pb Da Db Dc : Nat} {la lb lc : List (K × (Int × Int))} {W : World} (h : T3 n0 Pa Pb Da Db Dc la lb lc W) (hn : n0 ≤ W.heap.size) {fn : Nat} {args : Array Value} {r : Value} {b : Bool} {l' : List (K × (Int × Int))}
    (hop : ∀ X, DO fL hLong Pb Db lb X W → Calls Try.prog fn args W fun e w' => OpR fL hLong Pb Db X W r b l' e w') : Calls Try.prog fn args W fun e w' => e = .returned (.tuple #[r, .bool b]) ∧ T3 n0 Pa Pb Da Db Dc la l' lc w' ∧ FrT W w' ∧ Below n0 W w' := by
  obtain ⟨Xa, Xb, Xc, ⟨ha, hb, hc⟩, d1, d2, d3, ge⟩ := h
  refine (hop Xb hb).mono ?_
  rintro e w' ⟨rfl, X', h1, hf, hs⟩
  refine ⟨rfl, ⟨Xa, X', Xc, ⟨ha.same fun k hk => hf.block k (ha.lt hk) (fun h => d1 k hk h), h1, hc.same fun k hk => hf.block k (hc.lt hk) (fun h => d3 k h hk)⟩, fun k h2 h3 => d1 k h2 (hs k h3 (ha.lt h2)), d2, fun k h2 h3 => d3 k (hs k h2 (hc.lt h3)) h3, fun k hk => ?_⟩, frT_of hb hf, hf.below hn fun k hk => ge k (.inr (.inl hk))⟩
  rcases hk with hk | hk | hk
  · exact ge k (.inl hk)
  · by_cases hlt : k < W.heap.size
    · exact ge k (.inr (.inl (hs k hk hlt)))
    · omega
  · exact ge k (.inr (.inr hk))
theorem T3.opC {n0 Pa Pb Da Db Dc : Nat} {la lb lc : List (K × (Int × Int))} {W : World} (h : T3 n0 Pa Pb Da Db Dc la lb lc W) (hn : n0 ≤ W.heap.size) {fn : Nat} {args : Array Value} {r : Value} {b : Bool} {l' : List (K × (Int × Int))}
    (hop : ∀ X, DO fN hash0 256 Dc lc X W → Calls Try.prog fn args W fun e w' => OpR fN hash0 256 Dc X W r b l' e w') : Calls Try.prog fn args W fun e w' => e = .returned (.tuple #[r, .bool b]) ∧ T3 n0 Pa Pb Da Db Dc la lb l' w' ∧ FrT W w' ∧ Below n0 W w' := by
  obtain ⟨Xa, Xb, Xc, ⟨ha, hb, hc⟩, d1, d2, d3, ge⟩ := h
  refine (hop Xc hc).mono ?_
  rintro e w' ⟨rfl, X', h1, hf, hs⟩
  refine ⟨rfl, ⟨Xa, Xb, X', ⟨ha.same fun k hk => hf.block k (ha.lt hk) (fun h => d2 k hk h), hb.same fun k hk => hf.block k (hb.lt hk) (fun h => d3 k hk h), h1⟩, d1, fun k h2 h3 => d2 k h2 (hs k h3 (ha.lt h2)), fun k h2 h3 => d3 k h2 (hs k h3 (hb.lt h2)), fun k hk => ?_⟩, frT_of hc hf, hf.below hn fun k hk => ge k (.inr (.inr hk))⟩
  rcases hk with hk | hk | hk
  · exact ge k (.inl hk)
  · exact ge k (.inr (.inl hk))
  · by_cases hlt : k < W.heap.size
    · exact ge k (.inr (.inr (hs k hk hlt)))
    · omega
end Go.Proofs.Ytghfofjpoeckkaa
