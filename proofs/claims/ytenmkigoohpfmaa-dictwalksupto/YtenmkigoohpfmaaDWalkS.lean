/-
  DictWalks: WHAT STANDS WHILE KEYS ARE PUT.
-/
import Derived.Test.YtenmkigoohpfmaaDWalkH
import Derived.Test.YtenmkigoohpfmaaDPair
namespace Go.Proofs.Ytenmkigoohpfmaa
open Go.RowKit Go.Sort Go.Shelf

/-- what of an entry is told -/
def pq (e : En) : K × Int × Nat := (e.k, e.v, e.p)
theorem cpq_of {A C : List En} (h : A.map pq = C.map pq) : cpq A = cpq C := by
  induction A generalizing C with
  | nil => cases C with
    | nil => rfl
    | cons _ _ => simp at h
  | cons a A ih => cases C with
    | nil => simp at h
    | cons c C =>
      simp only [List.map_cons, List.cons.injEq, pq, Prod.mk.injEq] at h
      obtain ⟨⟨h1, h2, h3⟩, h4⟩ := h
      simp only [cpq]
      rw [h1, h2, h3, ih h4]
theorem OwnQ.of {W : World} {base : Nat} {v : Value} {A C : List En} (h : OwnQ W base v A) (e : A.map pq = C.map pq) : OwnQ W base v C := by
  unfold OwnQ at h ⊢
  have hl : A.length = C.length := by simpa using congrArg List.length e
  rw [← cpq_of e, ← hl]
  exact h
/-- the Dict, the boxes, the row of what is wanted -/
structure WS (w W : World) (D M L B3 B4 B5 B7 : Nat) (es ws : List En) (mv wv : Value) : Prop where
  wd : WD W w.heap.size D M L es
  b3 : W.heap[B3]? = some (.cells #[mv] 22 (0, 0))
  b4 : W.heap[B4]? = some (.cells #[.bool false] 4 (0, 0))
  b5 : W.heap[B5]? = some (.cells #[ptr D] TDp (0, 0))
  b7 : W.heap[B7]? = some (.cells #[wv] TQs (0, 0))
  wr : OwnQ W w.heap.size wv ws
  bel : Below w.heap.size w W
theorem WS.kept {w W W' : World} {D M L B3 B4 B5 B7 : Nat} {es ws : List En} {mv wv : Value} (h : WS w W D M L B3 B4 B5 B7 es ws mv wv) (hb : Below W.heap.size W W') : WS w W' D M L B3 B4 B5 B7 es ws mv wv :=
  ⟨h.wd.kept hb, (hb.block _ (blk_lt h.b3)).trans h.b3, (hb.block _ (blk_lt h.b4)).trans h.b4, (hb.block _ (blk_lt h.b5)).trans h.b5, (hb.block _ (blk_lt h.b7)).trans h.b7, h.wr.kept hb, h.bel.trans (hb.mono h.bel.size)⟩
theorem OwnQ.blk {W : World} {base : Nat} {v : Value} {A : List En} (h : OwnQ W base v A) {g : Nat} (hg : v.ownBlock = some g) : ∃ cur, W.heap[g]? = some (.cells cur TQ (0, 0)) := by
  obtain ⟨_, ⟨rfl, _⟩ | ⟨g1, c1, cur1, rfl, _, hh, _⟩⟩ := h
  · cases hg
  · cases hg; exact ⟨cur1, hh⟩
/-- the Dict has turned -/
theorem WS.dict {w W W' : World} {D M L B3 B4 B5 B7 : Nat} {es es' ws : List En} {mv wv : Value} (h : WS w W D M L B3 B4 B5 B7 es ws mv wv) (f : FrK w.heap.size W W') (hd : WD W' w.heap.size D M L es') : WS w W' D M L B3 B4 B5 B7 es' ws mv wv :=
  ⟨hd, (f.oth _ _ _ h.b3 (by decide) (by decide)).trans h.b3, (f.oth _ _ _ h.b4 (by decide) (by decide)).trans h.b4, (f.oth _ _ _ h.b5 (by decide) (by decide)).trans h.b5, (f.oth _ _ _ h.b7 (by decide) (by decide)).trans h.b7, h.wr.same (fun g hg => by
    obtain ⟨cur, hc⟩ := h.wr.blk hg
    exact f.oth g cur TQ hc (by decide) (by decide)), h.bel.trans f.below⟩
/-- what the boxes read as -/
theorem WS.cells {w W : World} {D M L B3 B4 B5 B7 : Nat} {es ws : List En} {mv wv : Value} (h : WS w W D M L B3 B4 B5 B7 es ws mv wv) : W.cell? ⟨B3, 0, none⟩ = some mv ∧ W.cell? ⟨B4, 0, none⟩ = some (.bool false) ∧ W.cell? ⟨B5, 0, none⟩ = some (ptr D) ∧ W.cell? ⟨B7, 0, none⟩ = some wv := by
  refine ⟨?_, ?_, ?_, ?_⟩
  · rw [World.cell?, h.b3]; rfl
  · rw [World.cell?, h.b4]; rfl
  · rw [World.cell?, h.b5]; rfl
  · rw [World.cell?, h.b7]; rfl
/-- another row is wanted -/
theorem WS.want {w W : World} {D M L B3 B4 B5 B7 : Nat} {es ws ws' : List En} {mv wv wv' : Value} (h : WS w W D M L B3 B4 B5 B7 es ws mv wv) (hq : OwnQ W w.heap.size wv' ws') (hB : w.heap.size ≤ B7) : WS w (W.setCell ⟨B7, 0, none⟩ wv') D M L B3 B4 B5 B7 es ws' mv wv' := by
  have oth : ∀ (k : Nat) (o : Obj), W.heap[k]? = some o → (∀ cur, o ≠ .cells cur TQs (0, 0)) → (W.setCell ⟨B7, 0, none⟩ wv').heap[k]? = W.heap[k]? := fun k o hk ho => heap_setCell_other _ _ _ _ (fun e => by
    have e' : k = B7 := e
    rw [e', h.b7] at hk
    simp only [Option.some.injEq] at hk
    exact ho _ hk.symm)
  have ty : ∀ {cur cur' : Array Value} {t : TypeId}, t ≠ TQs → (Obj.cells cur t (0, 0)) ≠ .cells cur' TQs (0, 0) := fun ht e => by
    simp only [Obj.cells.injEq] at e
    exact ht e.2.1
  refine ⟨⟨h.wd.da.same (fun k hk => ?_), h.wd.ge, h.wd.p0, by simpa using h.wd.sz⟩, (oth _ _ h.b3 (fun _ => ty (by decide))).trans h.b3, (oth _ _ h.b4 (fun _ => ty (by decide))).trans h.b4, (oth _ _ h.b5 (fun _ => ty (by decide))).trans h.b5, heap_setCell_same W B7 0 _ _ _ h.b7, hq.same (fun g hg => ?_), ?_⟩
  · rcases hk with rfl | rfl | rfl | ⟨e, he, rfl⟩
    · exact oth _ _ h.wd.da.dc (fun _ => ty (by decide))
    · obtain ⟨_, _, h1, _⟩ := h.wd.da.mp
      exact oth _ _ h1 (fun _ e => by cases e)
    · obtain ⟨_, h1, _⟩ := h.wd.da.ln
      exact oth _ _ h1 (fun _ => ty (by decide))
    · obtain ⟨_, _, h1⟩ := h.wd.da.entry he
      exact oth _ _ h1 (fun _ => ty (by decide))
  · obtain ⟨cur, hc⟩ := hq.blk hg
    exact oth _ _ hc (fun _ => ty (by decide))
  · exact h.bel.setCell (p := ⟨B7, 0, none⟩) hB _
/-- what is put in anew stands last, told as it is -/
theorem pq_anew (es : List En) (x : K) (v : Int) (E : Nat) : ((es.filter (fun e => !decide (e.k = x))) ++ [(⟨E, x, v, 0⟩ : En)]).map pq = (es.filter (fun e => !decide (e.k = x))).map pq ++ [(x, v, 0)] := by simp [pq]
theorem filter_ud (es : List En) (x : K) (v : Int) : (es.map (ud x v)).filter (fun e => !decide (e.k = x)) = es.filter (fun e => !decide (e.k = x)) := by
  induction es with
  | nil => rfl
  | cons e es ih =>
    simp only [List.map_cons, List.filter_cons]
    by_cases h : e.k = x
    · have h1 : (ud x v e).k = x := by rw [ud_k]; exact h
      simp only [h, h1, decide_true, Bool.not_true]
      exact ih
    · have h1 : ud x v e = e := by unfold ud; rw [if_neg h]
      simp only [h1, h, decide_false, Bool.not_false, if_true]
      rw [ih]
theorem pq_filter {A C : List En} (h : A.map pq = C.map pq) (x : K) : (A.filter (fun e => !decide (e.k = x))).map pq = (C.filter (fun e => !decide (e.k = x))).map pq := by
  induction A generalizing C with
  | nil => cases C with
    | nil => rfl
    | cons _ _ => simp at h
  | cons a A ih => cases C with
    | nil => simp at h
    | cons c C =>
      simp only [List.map_cons, List.cons.injEq] at h
      have hk : a.k = c.k := by have := h.1; simp only [pq, Prod.mk.injEq] at this; exact this.1
      simp only [List.filter_cons, hk]
      split
      · simp only [List.map_cons, h.1, ih h.2]
      · exact ih h.2
end Go.Proofs.Ytenmkigoohpfmaa
