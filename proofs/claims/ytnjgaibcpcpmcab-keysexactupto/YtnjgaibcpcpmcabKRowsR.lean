/-
  ROWS OF ROWS OF LISTS.
-/
import Derived.Test.YtnjgaibcpcpmcabKRows
namespace Go.Proofs.Ytnjgaibcpcpmcab
open Go.RowKit Go.Sort

/-- a row of lists of the call's own -/
def OwnRR (w : World) (base : Nat) (v : Value) (xs : List Value) : Prop := w.ownsRow base 23 1 v xs.length xs
theorem OwnRR.nil (w : World) (base : Nat) : OwnRR w base (.slice none 0 0) [] := World.ownsRow_nil _ _ _ _
theorem OwnRR.shape {w : World} {base : Nat} {v : Value} {xs : List Value} (h : OwnRR w base v xs) :
    (v = .slice none 0 0 ∧ xs = []) ∨ ∃ g cap, v = .slice (some ⟨g, 0, none⟩) xs.length cap ∧ base ≤ g ∧ g < w.heap.size ∧ xs.length ≤ cap ∧ ∀ j x, xs[j]? = some x → w.cell? ⟨g, j, none⟩ = some x := by
  obtain ⟨hl, h⟩ := h
  rcases h with ⟨rfl, h0⟩ | ⟨g, cap, cur, rfl, hb, hg, hn, hm, hs, ht⟩
  · exact .inl ⟨rfl, List.eq_nil_of_length_eq_zero h0⟩
  · refine .inr ⟨g, cap, rfl, hb, (Array.getElem?_eq_some_iff.1 hg).1, hn, fun j u hu => ?_⟩
    have hj : j < xs.length * 1 := by rw [Nat.mul_one]; exact (List.getElem?_eq_some_iff.1 hu).1
    have e := World.ownsRow.cellAt (w := w) (base := base) (e := 23) (size := 1) (g := g) (cap := cap) ⟨hl, .inr ⟨g, cap, cur, rfl, hb, hg, hn, hm, hs, ht⟩⟩ j hj
    rw [e, hu]
theorem OwnRR.lt {w : World} {base : Nat} {v : Value} {xs : List Value} (h : OwnRR w base v xs) : ∀ k, v.ownBlock = some k → base ≤ k ∧ k < w.heap.size := World.ownsRow.lt h
theorem OwnRR.same {w w1 : World} {base : Nat} {v : Value} {xs : List Value} (h : OwnRR w base v xs) (hs : ∀ g, v.ownBlock = some g → w1.heap[g]? = w.heap[g]?) : OwnRR w1 base v xs := by
  obtain ⟨hl, h⟩ := h
  refine ⟨hl, ?_⟩
  rcases h with h | ⟨g, cap, cur, rfl, hg, hh, r⟩
  · exact .inl h
  · exact .inr ⟨g, cap, cur, rfl, hg, (hs g rfl).trans hh, r⟩
theorem OwnRR.kept {w w1 : World} {base : Nat} {v : Value} {xs : List Value} (h : OwnRR w base v xs) (hb : Below w.heap.size w w1) : OwnRR w1 base v xs := h.same fun g hg => hb.block g (h.lt g hg).2
theorem OwnRR.grown {w w1 : World} {base : Nat} {v : Value} {xs : List Value} {row : Option Nat} (h : OwnRR w base v xs) (hg : w.grownBy w1 row) (hne : ∀ b, v.ownBlock = some b → row ≠ some b) : OwnRR w1 base v xs :=
  h.same fun g hgg => hg.block g (h.lt g hgg).2 (fun e => hne g hgg e.symm)


theorem infoRR : (Try.prog.info? 23).map (fun i => (i.zero, i.size, i.bytes)) = some (some (.slice none 0 0), 1, 24) := by kernel_rfl
theorem run_append_rr {w : World} (ty : TypeId) (base : Nat) (v : Value) (xs : List Value) (hown : OwnRR w base v xs) (B : Nat) (x : Value) (hx : w.cell? ⟨B, 0, none⟩ = some x) (h1 : x.oneCell' = true)
    (hlen : (xs.length + 1) * 24 ≤ 140737488355328) (hbase : base ≤ w.heap.size) :
    ∃ v' w', (Builtin.append_ #[45, 45] ty #[v, .slice (some ⟨B, 0, none⟩) 1 1]).run Try.prog w = .ok v' w' ∧ OwnRR w' base v' (xs ++ [x]) ∧ w.grownBy w' v.ownBlock ∧ (v'.ownBlock = v.ownBlock ∨ v'.ownBlock = some w.heap.size) := by
  obtain ⟨i0, hi, hz0, hz1, hz2⟩ := info_parts infoRR
  obtain ⟨v', w', hr, h2, h3, _, h5⟩ := run_append_own_at (P := Try.prog) w base 45 ty 23 i0 (.slice none 0 0) 1 24 Try.underlying45 hi hz0 hz1 hz2 rfl (by decide) v xs.length xs hown ⟨B, 0, none⟩ 1 1 [x] rfl
    (by
      intro j u hu
      match j, hu with
      | 0, hu => simp at hu; rw [addr_add, ← hu]; exact hx
      | j + 1, hu => simp at hu) (by simpa using h1) (by unfold maxLen; omega) hlen hbase
  exact ⟨v', w', hr, by unfold OwnRR; rw [List.length_append]; exact h2, h3, h5⟩
theorem wpList_append_rr {w : World} {ops : Array Oper} {rest : List Oper} {o : Oper} {a : Act} {Q : Exit → Act → World → Prop} (hgd : o.guard = none) (s x : Operand)
    (ho : o.op = .call { callee := .builtin .append, args := #[s, x], argTypes := #[45, 45] }) (base : Nat) (v : Value) (xs : List Value) (hs : a.eval s = v) (hown : OwnRR w base v xs)
    (B : Nat) (y : Value) (hx : a.eval x = .slice (some ⟨B, 0, none⟩) 1 1) (hy : w.cell? ⟨B, 0, none⟩ = some y) (h1 : y.oneCell' = true) (hlen : (xs.length + 1) * 24 ≤ 140737488355328) (hbase : base ≤ w.heap.size)
    (h : ∀ v' w', OwnRR w' base v' (xs ++ [y]) → w.grownBy w' v.ownBlock → (v'.ownBlock = v.ownBlock ∨ v'.ownBlock = some w.heap.size) → wpList Try.prog ops Q rest (a.put o.dst v') w') : wpList Try.prog ops Q (o :: rest) a w := by
  obtain ⟨v', w', hr, h2, h3, h4⟩ := run_append_rr o.type base v xs hown B y hy h1 hlen hbase
  refine wpList_plain hgd fun K hK' => ?_
  unfold Oper.wp
  simp [execOp, ho, resolve, invoke, builtin, hs, hx, hr, Result.andThen]
  exact hK' _ _ (h v' w' h2 h3 h4)


end Go.Proofs.Ytnjgaibcpcpmcab
