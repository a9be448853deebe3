/-
  ROWS THAT GROW BY ONE CELL.
-/
import Derived.Test.YteobmijfbjgccaaZChore
import Derived.Laws.Append
namespace Go.Proofs.Yteobmijfbjgccaa
open Go.RowKit Go.Sort

theorem wpL_appZ {w : World} {ops : Array Oper} {rest : List Oper} {o : Oper} {a : Act} {Q : Exit → Act → World → Prop} (hgd : o.guard = none) (s x : Operand) (TS : TypeId)
    (ho : o.op = .call { callee := .builtin .append, args := #[s, x], argTypes := #[TS, TS] }) (v u : Value) (hs : a.eval s = v) (hx : a.eval x = u) {post : Value → World → Prop}
    (hr : ∀ ty, ∃ v' w', (Builtin.append_ #[TS, TS] ty #[v, u]).run Try.prog w = .ok v' w' ∧ post v' w') (h : ∀ v' w', post v' w' → wpList Try.prog ops Q rest (a.put o.dst v') w') : wpList Try.prog ops Q (o :: rest) a w := by
  obtain ⟨v', w', hr, h2⟩ := hr o.type
  refine wpList_plain hgd fun K hK' => ?_
  unfold Oper.wp
  simp [execOp, ho, resolve, invoke, builtin, hs, hx, hr, Result.andThen]
  exact hK' _ _ (h v' w' h2)
/-- a row of one's own, from block N on -/
def OwZ (N : Nat) (TE : TypeId) (w : World) (ao : Option Addr) (n c : Nat) (ys : List Value) : Prop := w.ownsRow N TE 1 (.slice ao n c) n ys
theorem OwZ.at_ {N TE : Nat} {w : World} {ao : Option Addr} {n c : Nat} {ys : List Value} (h : OwZ N TE w ao n c ys) : WAt w ao ys := own_atW h
theorem OwZ.nil (N TE : Nat) (w : World) : OwZ N TE w none 0 0 [] := World.ownsRow_nil _ _ _ _
theorem OwZ.len {N TE : Nat} {w : World} {ao : Option Addr} {n c : Nat} {ys : List Value} (h : OwZ N TE w ao n c ys) : ys.length = n := by have := h.1; simpa using this
theorem OwZ.kept {N TE : Nat} {w w' : World} {ao : Option Addr} {n c : Nat} {ys : List Value} (h : OwZ N TE w ao n c ys) (hs : ∀ g, ao = some g → w'.heap[g.block]? = w.heap[g.block]?) : OwZ N TE w' ao n c ys := by
  obtain ⟨hl, h⟩ := h
  refine ⟨hl, ?_⟩
  rcases h with h | ⟨g, cap, cur, e, hb, hh, r⟩
  · exact .inl h
  · cases e
    exact .inr ⟨g, _, cur, rfl, hb, (hs _ rfl).trans hh, r⟩
theorem OwZ.lt {N TE : Nat} {w : World} {ao : Option Addr} {n c : Nat} {ys : List Value} (h : OwZ N TE w ao n c ys) (g : Addr) (hg : ao = some g) : N ≤ g.block ∧ g.block < w.heap.size := by
  obtain ⟨hl, h⟩ := h
  rcases h with ⟨h, _⟩ | ⟨g', cap, cur, e, hb, hh, r⟩
  · cases h; cases hg
  · cases e; cases hg; exact ⟨hb, blk_ltZ hh⟩
theorem OwZ.ty {N TE : Nat} {w : World} {ao : Option Addr} {n c : Nat} {ys : List Value} (h : OwZ N TE w ao n c ys) (g : Addr) (hg : ao = some g) : ∃ C, w.heap[g.block]? = some (.cells C TE (0, 0)) := by
  obtain ⟨hl, h⟩ := h
  rcases h with ⟨h, _⟩ | ⟨g', cap, cur, e, hb, hh, r⟩
  · cases h; cases hg
  · cases e; cases hg; exact ⟨_, hh⟩
theorem OwZ.cap {N TE : Nat} {w : World} {ao : Option Addr} {n c : Nat} {ys : List Value} (h : OwZ N TE w ao n c ys) : n ≤ c := by
  obtain ⟨hl, h⟩ := h
  rcases h with ⟨h, rfl⟩ | ⟨g', cap, cur, e, hb, hh, r, _⟩
  · omega
  · cases e; exact r
theorem OwZ.none0 {N TE : Nat} {w : World} {ao : Option Addr} {n c : Nat} {ys : List Value} (h : OwZ N TE w ao n c ys) : ao = none → c = 0 := fun e => by
  subst e
  obtain ⟨hl, h⟩ := h
  rcases h with ⟨h, rfl⟩ | ⟨g', cap, cur, e, _⟩
  · cases h; rfl
  · cases e
/-- what an append of one cell leaves -/
def AppZ (N : Nat) (TE : TypeId) (w : World) (ao : Option Addr) (n : Nat) (ys : List Value) (v' : Value) (w' : World) : Prop :=
  ∃ ao' c', v' = .slice ao' (n + 1) c' ∧ OwZ N TE w' ao' (n + 1) c' ys ∧ FrZ (fun k => ∃ g, ao = some g ∧ g.block = k) w w' ∧ (∀ g, ao' = some g → w.heap.size ≤ g.block ∨ ao' = ao)
theorem appZ {TS TE : TypeId} {bt : Nat} {z : Value} (hu : Try.prog.underlying TS = some (.slice TE)) (hinfo : (Try.prog.info? TE).map (fun i => (i.zero, i.size, i.bytes)) = some (some z, 1, bt)) (hzs : z.cells.size = 1) {N : Nat} {w : World} {ao : Option Addr} {n c : Nat} {ys : List Value} (h : OwZ N TE w ao n c ys) (hN : N ≤ w.heap.size) (x : Value) (hx : x.oneCell' = true) (hlen : n + 1 ≤ maxLen) (hb : (n + 1) * bt ≤ 140737488355328) (ty : TypeId) :
    ∃ v' w', (Builtin.append_ #[TS, TS] ty #[.slice ao n c, .slice (some ⟨w.heap.size, 0, none⟩) 1 1]).run Try.prog (w.alloc (.cells #[x] TE)) = .ok v' w' ∧ AppZ N TE w ao n (ys ++ [x]) v' w' := by
  have hb0 : Below w.heap.size w (w.alloc (.cells #[x] TE)) := (Below.refl _ _).alloc (Nat.le_refl _) _
  have hsrc : WAt (w.alloc (.cells #[x] TE)) (some ⟨w.heap.size, 0, none⟩) [x] := fun j u hu => by
    refine ⟨w.heap.size, 0, rfl, ?_⟩
    rw [World.cell?, heap_alloc_new _ _ rfl, Nat.zero_add]
    simpa using hu
  obtain ⟨v', w', hr, h2, h3, h4, _⟩ := app_at hu hinfo hzs (by omega) (w := w.alloc (.cells #[x] TE)) ty N (.slice ao n c) n ys (World.ownsRow.alloc h _) (some ⟨w.heap.size, 0, none⟩) 1 1 [x] rfl hsrc (by simp) (by intro u hu; simp at hu; subst hu; exact hx) hlen hb (Nat.le_trans hN hb0.size)
  obtain ⟨_, ⟨e, e2⟩ | ⟨g, cap, cur, e, hg, hh, hn, _⟩⟩ := id h2
  · omega
  · subst e
    refine ⟨_, w', hr, some ⟨g, 0, none⟩, cap, rfl, h2, ⟨h3.os, h3.tape, h3.output, Nat.le_trans hb0.size h3.size, fun k hk hS => ?_⟩, fun g' hg' => ?_⟩
    · rw [h3.block k (Nat.lt_of_lt_of_le hk hb0.size) (fun e => ?_)]
      · exact hb0.block k hk
      · cases ao with
        | none => simp [Value.ownBlock] at e
        | some a0 => simp [Value.ownBlock] at e; exact hS ⟨a0, rfl, e.symm⟩
    · cases hg'
      rcases h4 with h4 | h4
      · right
        obtain ⟨_, ⟨e1, e3⟩ | ⟨g1, cap1, cur1, e1, _⟩⟩ := h
        · cases e1; simp [Value.ownBlock] at h4
        · cases e1
          simp [Value.ownBlock] at h4
          rw [h4]
      · left
        simp [Value.ownBlock] at h4
        rw [h4]
        show w.heap.size ≤ w.heap.size + 1
        omega
theorem infoZP : (Try.prog.info? 44).map (fun i => (i.zero, i.size, i.bytes)) = some (some (.pointer none), 1, 8) := by kernel_rfl
theorem infoZT : (Try.prog.info? 61).map (fun i => (i.zero, i.size, i.bytes)) = some (some .nilIface, 1, 16) := by kernel_rfl
theorem infoZI : (Try.prog.info? 3).map (fun i => (i.zero, i.size, i.bytes)) = some (some (.int .i64 0), 1, 8) := by kernel_rfl
end Go.Proofs.Yteobmijfbjgccaa
