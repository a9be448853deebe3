/-
  ROWS OF preluderef07.Pair.
-/
import Derived.Test.YtenmkigoohpfmaaDClear
namespace Go.Proofs.Ytenmkigoohpfmaa
open Go.RowKit Go.Sort

abbrev TQ : TypeId := 34
abbrev TQs : TypeId := 29
def cpq : List En → List Value
  | [] => []
  | e :: l => .int .i64 e.k.1 :: .int .i64 e.k.2 :: .int .i64 e.v :: .int .i64 (e.p : Int) :: cpq l
theorem cpq_length (l : List En) : (cpq l).length = l.length * 4 := by
  induction l with
  | nil => rfl
  | cons e l ih => simp only [cpq, List.length_cons, ih]; omega
theorem cpq_append (A B : List En) : cpq (A ++ B) = cpq A ++ cpq B := by
  induction A with
  | nil => rfl
  | cons e A ih => simp [cpq, ih]
theorem cpq_one (l : List En) : ∀ v ∈ cpq l, v.oneCell' = true := by
  induction l with
  | nil => simp [cpq]
  | cons e l ih =>
    intro v hv
    simp only [cpq, List.mem_cons] at hv
    rcases hv with rfl | rfl | rfl | rfl | h
    · rfl
    · rfl
    · rfl
    · rfl
    · exact ih v h
theorem cpq_at (l : List En) (j : Nat) (h : j < l.length) : (cpq l)[j * 4]? = some (.int .i64 l[j].k.1) ∧ (cpq l)[j * 4 + 1]? = some (.int .i64 l[j].k.2) ∧ (cpq l)[j * 4 + 2]? = some (.int .i64 l[j].v) ∧ (cpq l)[j * 4 + 3]? = some (.int .i64 (l[j].p : Int)) := by
  induction l generalizing j with
  | nil => simp at h
  | cons e l ih =>
    cases j with
    | zero => simp [cpq]
    | succ j =>
      have := ih j (by simp at h; omega)
      rw [show (j + 1) * 4 = j * 4 + 1 + 1 + 1 + 1 by omega]
      simpa [cpq] using this
/-- A SLICE OF KEYS: the address and what its cells hold -/
def PrAt (w : World) (ao : Option Addr) (L : List En) : Prop :=
  L = [] ∨ ∃ b off, ao = some ⟨b, off, none⟩ ∧ ∀ j u, (cpq L)[j]? = some u → w.cell? ⟨b, off + j, none⟩ = some u
theorem PrAt.lt {w : World} {ao : Option Addr} {L : List En} (h : PrAt w ao L) : ∀ a, L ≠ [] → ao = some a → a.block < w.heap.size := by
  intro a hne he
  rcases h with rfl | ⟨b, off, rfl, hc⟩
  · exact absurd rfl hne
  · cases he
    cases L with
    | nil => exact absurd rfl hne
    | cons k L => exact cell_lt (hc 0 _ (by simp [cpq]; rfl))
theorem PrAt.below {w w1 : World} {ao : Option Addr} {L : List En} (h : PrAt w ao L) {B : Nat} (hb : Below B w w1) (hlt : ∀ a, L ≠ [] → ao = some a → a.block < B) : PrAt w1 ao L := by
  rcases h with rfl | ⟨b, off, rfl, hc⟩
  · exact .inl rfl
  · by_cases hne : L = []
    · exact .inl hne
    · exact .inr ⟨b, off, rfl, fun j u hu => (hb.cell (p := ⟨b, off + j, none⟩) (hlt ⟨b, off, none⟩ hne rfl)).trans (hc j u hu)⟩
theorem PrAt.kept {w w1 : World} {ao : Option Addr} {L : List En} (h : PrAt w ao L) (hb : Below w.heap.size w w1) : PrAt w1 ao L := h.below hb h.lt
theorem PrAt.grew {w w1 : World} {ao : Option Addr} {L : List En} (h : PrAt w ao L) (hg : Grew w w1) : PrAt w1 ao L := h.kept hg.below

/-- a slice of keys of the call's own -/
def OwnQ (w : World) (base : Nat) (v : Value) (L : List En) : Prop := w.ownsRow base TQ 4 v L.length (cpq L)
theorem OwnQ.nil (w : World) (base : Nat) : OwnQ w base (.slice none 0 0) [] := World.ownsRow_nil _ _ _ _
theorem OwnQ.shape {w : World} {base : Nat} {v : Value} {L : List En} (h : OwnQ w base v L) :
    (v = .slice none 0 0 ∧ L = []) ∨ ∃ g cap, v = .slice (some ⟨g, 0, none⟩) L.length cap ∧ base ≤ g ∧ g < w.heap.size ∧ L.length ≤ cap ∧ cap ≤ maxLen ∧ PrAt w (some ⟨g, 0, none⟩) L := by
  obtain ⟨hl, h⟩ := h
  rcases h with ⟨rfl, h0⟩ | ⟨g, cap, cur, rfl, hb, hg, hn, hm, hs, ht⟩
  · exact .inl ⟨rfl, List.eq_nil_of_length_eq_zero h0⟩
  · refine .inr ⟨g, cap, rfl, hb, (Array.getElem?_eq_some_iff.1 hg).1, hn, hm, .inr ⟨g, 0, rfl, fun j u hu => ?_⟩⟩
    have hj : j < L.length * 4 := by rw [← cpq_length]; exact (List.getElem?_eq_some_iff.1 hu).1
    have e := World.ownsRow.cellAt (w := w) (base := base) (e := TQ) (size := 4) (g := g) (cap := cap) ⟨hl, .inr ⟨g, cap, cur, rfl, hb, hg, hn, hm, hs, ht⟩⟩ j hj
    rw [Nat.zero_add, e, hu]
theorem OwnQ.slice {w : World} {base : Nat} {v : Value} {L : List En} (h : OwnQ w base v L) : ∃ ao cap, v = .slice ao L.length cap ∧ PrAt w ao L ∧ (ao = none → cap = 0) ∧ L.length ≤ cap := by
  rcases h.shape with ⟨rfl, rfl⟩ | ⟨g, cap, rfl, _, _, hc, _, hb⟩
  · exact ⟨none, 0, rfl, .inl rfl, fun _ => rfl, by simp⟩
  · exact ⟨_, cap, rfl, hb, by simp, hc⟩
theorem OwnQ.alloc {w : World} {base : Nat} {v : Value} {L : List En} (h : OwnQ w base v L) (o : Obj) : OwnQ (w.alloc o) base v L := World.ownsRow.alloc h o
theorem OwnQ.drewN {w : World} {base : Nat} {v : Value} {L : List En} (h : OwnQ w base v L) (n : Nat) : OwnQ (w.drewN n) base v L := h
theorem OwnQ.mono {w : World} {base base' : Nat} {v : Value} {L : List En} (h : OwnQ w base v L) (hb : base' ≤ base) : OwnQ w base' v L := by
  obtain ⟨hl, h⟩ := h
  refine ⟨hl, ?_⟩
  rcases h with h | ⟨g, cap, cur, e, hg, r⟩
  · exact .inl h
  · exact .inr ⟨g, cap, cur, e, by omega, r⟩
theorem OwnQ.lt {w : World} {base : Nat} {v : Value} {L : List En} (h : OwnQ w base v L) : ∀ k, v.ownBlock = some k → base ≤ k ∧ k < w.heap.size := World.ownsRow.lt h
theorem OwnQ.same {w w1 : World} {base : Nat} {v : Value} {L : List En} (h : OwnQ w base v L) (hs : ∀ g, v.ownBlock = some g → w1.heap[g]? = w.heap[g]?) : OwnQ w1 base v L := by
  obtain ⟨hl, h⟩ := h
  refine ⟨hl, ?_⟩
  rcases h with h | ⟨g, cap, cur, rfl, hg, hh, r⟩
  · exact .inl h
  · exact .inr ⟨g, cap, cur, rfl, hg, (hs g rfl).trans hh, r⟩
theorem OwnQ.kept {w w1 : World} {base : Nat} {v : Value} {L : List En} (h : OwnQ w base v L) (hb : Below w.heap.size w w1) : OwnQ w1 base v L :=
  h.same fun g hg => hb.block g (h.lt g hg).2

theorem infoQ : (Try.prog.info? TQ).map (fun i => (i.zero, i.size, i.bytes)) = some (some (.agg #[.int .i64 0, .int .i64 0, .int .i64 0, .int .i64 0]), 4, 32) := by kernel_rfl
/-- append at a slice of keys of the call's own, whatever slice of keys is appended: one equation -/
theorem run_append_q {w : World} (ty : TypeId) (base : Nat) (v : Value) (L : List En) (hown : OwnQ w base v L)
    (ao : Option Addr) (m c : Nat) (M : List En) (hm : m = M.length) (hsrc : PrAt w ao M) (hnil : ao = none → c = 0) (hlen : (L.length + M.length) * 32 ≤ 140737488355328) (hbase : base ≤ w.heap.size) :
    ∃ v' w', (Builtin.append_ #[TQs, TQs] ty #[v, .slice ao m c]).run Try.prog w = .ok v' w' ∧ OwnQ w' base v' (L ++ M) ∧ w.grownBy w' v.ownBlock ∧ (v'.ownBlock = v.ownBlock ∨ v'.ownBlock = some w.heap.size) := by
  obtain ⟨i0, hi, hz0, hz1, hz2⟩ := info_parts infoQ
  subst hm
  cases ao with
  | none =>
    have h0 : M = [] := by
      rcases hsrc with h1 | ⟨b, off, h1, _⟩
      · exact h1
      · cases h1
    subst h0
    obtain rfl := hnil rfl
    exact ⟨v, w, run_append_owned_none (P := Try.prog) (w := w) base TQs ty TQ i0 4 Try.underlying29 hi v L.length (cpq L) hown, by simpa using hown, World.grownBy.refl _ _, .inl rfl⟩
  | some ad =>
    obtain ⟨v', w', hr, h2, h3, _, h5⟩ := run_append_own_at (P := Try.prog) w base TQs ty TQ i0 (.agg #[.int .i64 0, .int .i64 0, .int .i64 0, .int .i64 0]) 4 32 Try.underlying29 hi hz0 hz1 hz2 rfl (by decide) v L.length (cpq L) hown ad M.length c (cpq M) (cpq_length M)
      (by
        intro j u hu
        rcases hsrc with h0 | ⟨b, off, e, hc⟩
        · subst h0; simp [cpq] at hu
        · cases e
          rw [addr_add]; exact hc j u hu) (cpq_one M) (by unfold maxLen; omega) hlen hbase
    exact ⟨v', w', hr, by unfold OwnQ; rw [List.length_append, cpq_append]; exact h2, h3, h5⟩
theorem wpList_append_q {w : World} {ops : Array Oper} {rest : List Oper} {o : Oper} {a : Act} {Q : Exit → Act → World → Prop} (hgd : o.guard = none) (s x : Operand)
    (ho : o.op = .call { callee := .builtin .append, args := #[s, x], argTypes := #[TQs, TQs] }) (base : Nat) (v : Value) (L : List En) (hs : a.eval s = v) (hown : OwnQ w base v L)
    (ao : Option Addr) (m c : Nat) (M : List En) (hx : a.eval x = .slice ao m c) (hm : m = M.length) (hsrc : PrAt w ao M) (hnil : ao = none → c = 0) (hlen : (L.length + M.length) * 32 ≤ 140737488355328) (hbase : base ≤ w.heap.size)
    (h : ∀ v' w', OwnQ w' base v' (L ++ M) → w.grownBy w' v.ownBlock → (v'.ownBlock = v.ownBlock ∨ v'.ownBlock = some w.heap.size) → wpList Try.prog ops Q rest (a.put o.dst v') w') : wpList Try.prog ops Q (o :: rest) a w := by
  obtain ⟨v', w', hr, h2, h3, h4⟩ := run_append_q o.type base v L hown ao m c M hm hsrc hnil hlen hbase
  refine wpList_plain hgd fun K hK' => ?_
  unfold Oper.wp
  simp [execOp, ho, resolve, invoke, builtin, hs, hx, hr, Result.andThen]
  exact hK' _ _ (h v' w' h2 h3 h4)
theorem step_append_q {w : World} {ops : Array Oper} {o : Oper} {a : Act} {K' : Act → World → Prop} {Q : Exit → Act → World → Prop} {E : Prop} (hgd : o.guard = none) (s x : Operand)
    (ho : o.op = .call { callee := .builtin .append, args := #[s, x], argTypes := #[TQs, TQs] }) (base : Nat) (v : Value) (L : List En) (hs : a.eval s = v) (hown : OwnQ w base v L)
    (ao : Option Addr) (m c : Nat) (M : List En) (hx : a.eval x = .slice ao m c) (hm : m = M.length) (hsrc : PrAt w ao M) (hnil : ao = none → c = 0) (hlen : (L.length + M.length) * 32 ≤ 140737488355328) (hbase : base ≤ w.heap.size)
    (h : ∀ v' w', OwnQ w' base v' (L ++ M) → w.grownBy w' v.ownBlock → (v'.ownBlock = v.ownBlock ∨ v'.ownBlock = some w.heap.size) → K' (a.put o.dst v') w') :
    if Region.wanted o (yielded ops a.tmps) = true then Oper.wp Try.prog o a w K' Q else E := by
  have hw : Region.wanted o (yielded ops a.tmps) = true := by simp [Region.wanted, hgd]
  rw [if_pos hw]
  obtain ⟨v', w', hr, h2, h3, h4⟩ := run_append_q o.type base v L hown ao m c M hm hsrc hnil hlen hbase
  unfold Oper.wp execOp
  simp only [ho, resolve, invoke, builtin, Sem.run_bind, Sem.run_pure, Result.andThen_ok, List.map_toArray, List.map_cons, List.map_nil, hs, hx, hr]
  exact h v' w' h2 h3 h4
theorem PrAt.cells {w : World} {b off : Nat} {l : List En} (h : ∀ j u, (cpq l)[j]? = some u → w.cell? ⟨b, off + j, none⟩ = some u) (j : Nat) (hj : j < l.length) :
    w.cell? ⟨b, off + j * 4, none⟩ = some (.int .i64 l[j].k.1) ∧ w.cell? ⟨b, off + j * 4 + 1, none⟩ = some (.int .i64 l[j].k.2) ∧ w.cell? ⟨b, off + j * 4 + 2, none⟩ = some (.int .i64 l[j].v) ∧ w.cell? ⟨b, off + j * 4 + 3, none⟩ = some (.int .i64 (l[j].p : Int)) := by
  obtain ⟨h1, h2, h3, h4⟩ := cpq_at l j hj
  exact ⟨h _ _ h1, by rw [Nat.add_assoc]; exact h _ _ h2, by rw [Nat.add_assoc]; exact h _ _ h3, by rw [Nat.add_assoc]; exact h _ _ h4⟩
theorem pr_src (w : World) (x y v p : Int) (e : En) (hx : e.k.1 = x) (hy : e.k.2 = y) (hv : e.v = v) (hp : (e.p : Int) = p) : PrAt (w.alloc (.cells #[.int .i64 x, .int .i64 y, .int .i64 v, .int .i64 p] TQ)) (some ⟨w.heap.size, 0, none⟩) [e] := by
  refine .inr ⟨w.heap.size, 0, rfl, fun j u hu => ?_⟩
  have hb := heap_alloc_new (w := w) (.cells #[.int .i64 x, .int .i64 y, .int .i64 v, .int .i64 p] TQ) w.heap.size rfl
  rw [World.cell?, hb]
  simp only [cpq, hx, hy, hv, hp] at hu
  simpa using hu
end Go.Proofs.Ytenmkigoohpfmaa
