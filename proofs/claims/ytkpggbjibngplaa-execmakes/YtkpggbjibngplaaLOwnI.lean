/-
  SLICES OF NUMBERS OF THE CALL's OWN; append.
-/
import Derived.Test.YtkpggbjibngplaaLRef2
import Derived.Laws.AppendOwnNone
import Derived.Maps.AppendAt
namespace Go.Proofs.Ytkpggbjibngplaa
open Go.RowKit Go.Sort

/-- numbers that are read -/
def IRead (W : World) (g : Nat) (L : List Int) : Prop := ∀ j, j < L.length → W.cell? ⟨g, j, none⟩ = some (.int .i64 (L.getD j 0))
theorem RowI.read {W : World} {g : Nat} {L : List Int} (h : RowI W g L) : IRead W g L := fun j hj => h.cell j hj
theorem IRead.below {W W' : World} {g B : Nat} {L : List Int} (h : IRead W g L) (hb : Below B W W') (hg : g < B) : IRead W' g L := fun j hj => (hb.cell (p := ⟨g, j, none⟩) hg).trans (h j hj)
theorem IRead.lt {W : World} {g : Nat} {L : List Int} (h : IRead W g L) (hL : L ≠ []) : g < W.heap.size := cell_lt (h 0 (by cases L with | nil => exact absurd rfl hL | cons => simp))
theorem IRead.kept {W W' : World} {g : Nat} {L : List Int} (h : IRead W g L) (hb : Below W.heap.size W W') : IRead W' g L := fun j hj => (hb.cell (p := ⟨g, j, none⟩) (cell_lt (h j hj))).trans (h j hj)
theorem IRead.other {W : World} {g : Nat} {L : List Int} (h : IRead W g L) (a : Addr) (v : Value) (hne : g ≠ a.block) : IRead (W.setCell a v) g L := fun j hj => by
  have := heap_setCell_other W a g v hne
  have h2 := h j hj
  simp only [World.cell?] at h2 ⊢
  rw [this]; exact h2

def OwnI (w : World) (base : Nat) (v : Value) (L : List Int) : Prop := w.ownsRow base 3 1 v L.length (L.map iv)
theorem OwnI.shape {w : World} {base : Nat} {v : Value} {L : List Int} (h : OwnI w base v L) :
    (v = .slice none 0 0 ∧ L = []) ∨ ∃ g cap, v = .slice (some ⟨g, 0, none⟩) L.length cap ∧ base ≤ g ∧ g < w.heap.size ∧ L.length ≤ cap ∧ cap ≤ maxLen ∧ IRead w g L := by
  obtain ⟨hl, h⟩ := h
  rcases h with ⟨rfl, h0⟩ | ⟨g, cap, cur, rfl, hb, hg, hn, hm, hs, ht⟩
  · exact .inl ⟨rfl, List.eq_nil_of_length_eq_zero h0⟩
  · refine .inr ⟨g, cap, rfl, hb, (Array.getElem?_eq_some_iff.1 hg).1, hn, hm, fun j hj => ?_⟩
    have e := World.ownsRow.cellAt (w := w) (base := base) (e := 3) (size := 1) (g := g) (cap := cap) ⟨hl, .inr ⟨g, cap, cur, rfl, hb, hg, hn, hm, hs, ht⟩⟩ j (by omega)
    rw [e]
    simp [List.getD_eq_getElem?_getD, List.getElem?_eq_getElem hj]
theorem OwnI.row {w : World} {base g n cap : Nat} {L : List Int} (h : OwnI w base (.slice (some ⟨g, 0, none⟩) n cap) L) : base ≤ g ∧ n = L.length ∧ n ≤ cap ∧ g < w.heap.size ∧ IRead w g L := by
  rcases h.shape with ⟨h, _⟩ | ⟨g', cap', h, h1, h2, h3, _, h4⟩
  · cases h
  · simp only [Value.slice.injEq, Option.some.injEq, Addr.mk.injEq] at h
    obtain ⟨⟨rfl, _⟩, rfl, rfl⟩ := h
    exact ⟨h1, rfl, h3, h2, h4⟩
theorem OwnI.frozen {w : World} {base g n cap : Nat} {L : List Int} (h : OwnI w base (.slice (some ⟨g, 0, none⟩) n cap) L) (j : Nat) : w.frozen? ⟨g, j, none⟩ = false := by
  obtain ⟨hl, h0 | ⟨g', cap', cur, e, hb, hg, r⟩⟩ := h
  · cases h0.1
  · cases e; exact frozen_of_row w g j _ _ hg
theorem OwnI.set {w : World} {base g n cap : Nat} {L : List Int} (h : OwnI w base (.slice (some ⟨g, 0, none⟩) n cap) L) (p : Nat) (z : Int) : OwnI (w.setCell ⟨g, p, none⟩ (.int .i64 z)) base (.slice (some ⟨g, 0, none⟩) n cap) (L.set p z) := by
  have hn := h.row.2.1
  subst hn
  have hs := World.ownsRow.stored h p (.int .i64 z)
  unfold OwnI
  rw [List.length_set, List.map_set]
  exact hs.1
theorem OwnI.ofRow {w : World} {g : Nat} {L : List Int} (h : RowI w g L) (hm : L.length ≤ maxLen) {base : Nat} (hb : base ≤ g) : OwnI w base (.slice (some ⟨g, 0, none⟩) L.length L.length) L := by
  refine ⟨by simp, .inr ⟨g, L.length, cellsI L, rfl, hb, h, Nat.le_refl _, hm, by simp [size_cellsI], ?_⟩⟩
  simp only [cellsI, Nat.mul_one]
  rw [List.take_of_length_le (by simp)]
theorem OwnI.lt {w : World} {base : Nat} {v : Value} {L : List Int} (h : OwnI w base v L) : ∀ k, v.ownBlock = some k → base ≤ k ∧ k < w.heap.size := World.ownsRow.lt h
theorem OwnI.same {w w1 : World} {base : Nat} {v : Value} {L : List Int} (h : OwnI w base v L) (hs : ∀ g, v.ownBlock = some g → w1.heap[g]? = w.heap[g]?) : OwnI w1 base v L := by
  obtain ⟨hl, h⟩ := h
  refine ⟨hl, ?_⟩
  rcases h with h | ⟨g, cap, cur, rfl, hg, hh, r⟩
  · exact .inl h
  · exact .inr ⟨g, cap, cur, rfl, hg, (hs g rfl).trans hh, r⟩
theorem OwnI.kept {w w1 : World} {base : Nat} {v : Value} {L : List Int} (h : OwnI w base v L) (hb : Below w.heap.size w w1) : OwnI w1 base v L := h.same fun g hg => hb.block g (h.lt g hg).2
theorem OwnI.alloc {w : World} {base : Nat} {v : Value} {L : List Int} (h : OwnI w base v L) (o : Obj) : OwnI (w.alloc o) base v L := h.kept ((Below.refl _ _).alloc (Nat.le_refl _) _)

/-- append of one number -/
theorem run_append_int {w : World} (ty : TypeId) (base : Nat) (v : Value) (L : List Int) (hown : OwnI w base v L) (B : Nat) (x : Int) (hB : w.cell? ⟨B, 0, none⟩ = some (.int .i64 x)) (hlen : L.length + 1 ≤ 1000000) (hbase : base ≤ w.heap.size) :
    ∃ v' w', (Builtin.append_ #[74, 74] ty #[v, .slice (some ⟨B, 0, none⟩) 1 1]).run Try.prog w = .ok v' w' ∧ OwnI w' base v' (L ++ [x]) ∧ w.grownBy w' v.ownBlock ∧ (v'.ownBlock = v.ownBlock ∨ v'.ownBlock = some w.heap.size) := by
  obtain ⟨i0, hi, hz0, hz1, hz2⟩ := info_parts infoI
  obtain ⟨v', w', hr, h2, h3, _, h5⟩ := run_append_own_at (P := Try.prog) w base 74 ty 3 i0 (.int .i64 0) 1 8 Try.underlying74 hi hz0 hz1 hz2 rfl (by decide) v L.length (L.map iv) hown ⟨B, 0, none⟩ 1 1 [.int .i64 x] (by simp)
    (by
      intro j u hu
      match j, hu with
      | 0, hu => simp at hu; rw [addr_add, ← hu]; exact hB
      | j + 1, hu => simp at hu) (by intro u hu; simp at hu; rw [hu]; rfl) (by unfold maxLen; omega) (by omega) hbase
  refine ⟨v', w', hr, ?_, h3, h5⟩
  unfold OwnI
  rw [List.length_append, List.map_append]
  exact h2
theorem wpList_append_int {w : World} {ops : Array Oper} {rest : List Oper} {o : Oper} {a : Act} {Q : Exit → Act → World → Prop} (hgd : o.guard = none) (s x : Operand)
    (ho : o.op = .call { callee := .builtin .append, args := #[s, x], argTypes := #[74, 74] }) (base : Nat) (v : Value) (L : List Int) (hs : a.eval s = v) (hown : OwnI w base v L)
    (B : Nat) (z : Int) (hx : a.eval x = .slice (some ⟨B, 0, none⟩) 1 1) (hB : w.cell? ⟨B, 0, none⟩ = some (.int .i64 z)) (hlen : L.length + 1 ≤ 1000000) (hbase : base ≤ w.heap.size)
    (h : ∀ v' w', OwnI w' base v' (L ++ [z]) → w.grownBy w' v.ownBlock → (v'.ownBlock = v.ownBlock ∨ v'.ownBlock = some w.heap.size) → wpList Try.prog ops Q rest (a.put o.dst v') w') : wpList Try.prog ops Q (o :: rest) a w := by
  obtain ⟨v', w', hr, h2, h3, h4⟩ := run_append_int o.type base v L hown B z hB hlen hbase
  refine wpList_plain hgd fun K hK' => ?_
  unfold Oper.wp
  simp [execOp, ho, resolve, invoke, builtin, hs, hx, hr, Result.andThen]
  exact hK' _ _ (h v' w' h2 h3 h4)

end Go.Proofs.Ytkpggbjibngplaa
