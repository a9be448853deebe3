/-
  TWO LISTS OF NUMBERS THAT GROW, AND WHAT THEY GREW OUT OF.
-/
import Derived.Test.YtjmlogljfboleaaLSame
import Derived.Deep.DeepAppendRoom
import Derived.Laws.Append
namespace Go.Proofs.Ytjmlogljfboleaa
open Go.RowKit Go.Sort

/-- append of one number: in place, or all that lay lies as it lay -/
theorem run_append_int2 {w : World} (ty : TypeId) (base : Nat) (v : Value) (L : List Int) (hown : OwnI w base v L) (B : Nat) (x : Int) (hB : w.cell? ⟨B, 0, none⟩ = some (.int .i64 x)) (hlen : L.length + 1 ≤ 1000000) (hbase : base ≤ w.heap.size) :
    ∃ v' w', (Builtin.append_ #[27, 27] ty #[v, .slice (some ⟨B, 0, none⟩) 1 1]).run Try.prog w = .ok v' w' ∧ OwnI w' base v' (L ++ [x]) ∧ ((v'.ownBlock = v.ownBlock ∧ w.grownBy w' v.ownBlock) ∨ (v'.ownBlock = some w.heap.size ∧ w.grownBy w' none)) := by
  obtain ⟨v', w', hr, h2, h3, h4⟩ := run_append_int ty base v L hown B x hB hlen hbase
  refine ⟨v', w', hr, h2, ?_⟩
  obtain ⟨hl, h⟩ := hown
  rcases h with ⟨rfl, h0⟩ | ⟨g, cap, cur, rfl, hb, hg, hn, hcm, hs, ht⟩
  · rcases h4 with h4 | h4
    · exact .inl ⟨h4, h3⟩
    · exact .inr ⟨h4, h3⟩
  · obtain ⟨i0, hi, hz0, hz1, hz2⟩ := info_parts infoI
    have hsrc' : ∀ j u, [Value.int .i64 x][j]? = some u → w.cell? ((⟨B, 0, none⟩ : Addr).add j) = some u := by
      intro j u hu
      match j, hu with
      | 0, hu => simp at hu; rw [addr_add, ← hu]; exact hB
      | j + 1, hu => simp at hu
    have hone : ∀ u ∈ [Value.int .i64 x], u.oneCell' = true := by intro u hu; simp at hu; rw [hu]; rfl
    have hown' : w.ownsRow base 3 1 (.slice (some ⟨g, 0, none⟩) L.length cap) L.length (L.map iv) := ⟨hl, .inr ⟨g, cap, cur, rfl, hb, hg, hn, hcm, hs, ht⟩⟩
    by_cases hroom : L.length + 1 ≤ cap
    · obtain ⟨w2, hr2, _, h6⟩ := run_append_own_spare (P := Try.prog) (w := w) base 27 ty 3 i0 1 Try.underlying27 hi hz1 g L.length cap (L.map iv) hown' ⟨B, 0, none⟩ 1 1 [.int .i64 x] (by simp) hsrc' hone hroom
      rw [hr] at hr2
      cases hr2
      exact .inl ⟨rfl, h6⟩
    · have hgr := run_append_grow (P := Try.prog) w 27 ty 3 i0 (.int .i64 0) Try.underlying27 hi hz0 ⟨g, 0, none⟩ L.length cap (L.map iv) (by rw [hz1]; simp)
        (fun j u hu => by rw [addr_add]; have hj : j < L.length * 1 := by have := (List.getElem?_eq_some_iff.1 hu).1; simpa using this
                          rw [Nat.zero_add, World.ownsRow.cellAt hown' j hj, hu])
        ⟨B, 0, none⟩ 1 1 [.int .i64 x] (by rw [hz1]; simp) hsrc' (by omega) (by omega) (by rw [hz2]; exact growslice_fits (by omega) (by omega))
      rw [hr] at hgr
      cases hgr
      exact .inr ⟨rfl, ⟨rfl, rfl, rfl, by simp, fun k hk _ => Below.heap_alloc w.drew _ k hk⟩⟩
theorem wpList_append_int2 {w : World} {ops : Array Oper} {rest : List Oper} {o : Oper} {a : Act} {Q : Exit → Act → World → Prop} (hgd : o.guard = none) (s x : Operand)
    (ho : o.op = .call { callee := .builtin .append, args := #[s, x], argTypes := #[27, 27] }) (base : Nat) (v : Value) (L : List Int) (hs : a.eval s = v) (hown : OwnI w base v L)
    (B : Nat) (z : Int) (hx : a.eval x = .slice (some ⟨B, 0, none⟩) 1 1) (hB : w.cell? ⟨B, 0, none⟩ = some (.int .i64 z)) (hlen : L.length + 1 ≤ 1000000) (hbase : base ≤ w.heap.size)
    (h : ∀ v' w', OwnI w' base v' (L ++ [z]) → ((v'.ownBlock = v.ownBlock ∧ w.grownBy w' v.ownBlock) ∨ (v'.ownBlock = some w.heap.size ∧ w.grownBy w' none)) → wpList Try.prog ops Q rest (a.put o.dst v') w') : wpList Try.prog ops Q (o :: rest) a w := by
  obtain ⟨v', w', hr, h2, h3⟩ := run_append_int2 o.type base v L hown B z hB hlen hbase
  refine wpList_plain hgd fun K hK' => ?_
  unfold Oper.wp
  simp [execOp, ho, resolve, invoke, builtin, hs, hx, hr, Result.andThen]
  exact hK' _ _ (h v' w' h2 h3)

/-- ONE LIST THAT GROWS: x out of a; the other's blocks are not touched -/
structure Two (base : Nat) (W9 W : World) (ga gb : Nat) (A D X Y : List Int) (vx vy : Value) : Prop where
  ia : IRead W ga A
  ib : IRead W gb D
  ox : OwnI W base vx (A ++ X)
  oy : OwnI W base vy (D ++ Y)
  ax : ∀ k, vx.ownBlock = some k → k ≠ gb ∧ vy.ownBlock ≠ some k
  ay : ∀ k, vy.ownBlock = some k → k ≠ ga
  bel : Below base W9 W
  la : ga < W.heap.size
  lb : gb < W.heap.size
theorem grown_none {W W' : World} (h : W.grownBy W' none) : Below W.heap.size W W' := ⟨h.os, h.tape, h.output, h.size, fun k hk => h.block k hk (by simp)⟩
theorem IRead.grownBy {W W' : World} {g : Nat} {L : List Int} {row : Option Nat} (h : IRead W g L) (hg : W.grownBy W' row) (hne : row ≠ some g) : IRead W' g L := fun j hj => hg.cell (h j hj) (fun e => hne e.symm)
theorem OwnI.prefix {W : World} {base g : Nat} {v : Value} {L M : List Int} (h : OwnI W base v (L ++ M)) (hb : v.ownBlock = some g) : IRead W g L := by
  rcases h.shape with ⟨h1, _⟩ | ⟨g', cap, h1, _, _, _, _, hr⟩
  · rw [h1] at hb; cases hb
  · rw [h1] at hb
    simp only [Value.ownBlock, Option.some.injEq] at hb
    subst hb
    intro j hj
    have := hr j (by simp; omega)
    rw [this]
    congr 2
    simp [List.getD_eq_getElem?_getD, List.getElem?_append_left hj]
theorem OwnI.grown {W W' : World} {base : Nat} {v : Value} {L : List Int} {row : Option Nat} (h : OwnI W base v L) (hg : W.grownBy W' row) (hne : ∀ k, v.ownBlock = some k → row ≠ some k) : OwnI W' base v L := h.same fun g hgb => hg.block g (h.lt g hgb).2 (fun e => hne g hgb e.symm)
theorem Two.alloc {base : Nat} {W9 W : World} {ga gb : Nat} {A D X Y : List Int} {vx vy : Value} (h : Two base W9 W ga gb A D X Y vx vy) (hb : base ≤ W.heap.size) (o : Obj) : Two base W9 (W.alloc o) ga gb A D X Y vx vy := by
  have hA : Below W.heap.size W (W.alloc o) := (Below.refl _ _).alloc (Nat.le_refl _) _
  exact ⟨h.ia.kept hA, h.ib.kept hA, h.ox.kept hA, h.oy.kept hA, h.ax, h.ay, h.bel.trans (hA.mono hb), by have := h.la; simp; omega, by have := h.lb; simp; omega⟩
/-- x grows -/
theorem Two.growX {base : Nat} {W9 W W' : World} {ga gb : Nat} {A D X Y : List Int} {vx vy v' : Value} {z : Int} (h : Two base W9 W ga gb A D X Y vx vy) (hb : base ≤ W.heap.size) (h1 : OwnI W' base v' ((A ++ X) ++ [z]))
    (h2 : (v'.ownBlock = vx.ownBlock ∧ W.grownBy W' vx.ownBlock) ∨ (v'.ownBlock = some W.heap.size ∧ W.grownBy W' none)) : Two base W9 W' ga gb A D (X ++ [z]) Y v' vy := by
  rw [List.append_assoc] at h1
  rcases h2 with ⟨e1, hg⟩ | ⟨e1, hg⟩
  · refine ⟨?_, h.ib.grownBy hg (fun e => (h.ax gb e).1 rfl), h1, h.oy.grown hg (fun k hk e => (h.ax k e).2 hk), fun k hk => h.ax k (by rw [← e1]; exact hk), h.ay, h.bel.trans ?_, Nat.lt_of_lt_of_le h.la hg.size, Nat.lt_of_lt_of_le h.lb hg.size⟩
    · by_cases hga : vx.ownBlock = some ga
      · exact h1.prefix (by rw [e1]; exact hga)
      · exact h.ia.grownBy hg hga
    · exact ⟨hg.os, hg.tape, hg.output, hg.size, fun k hk => hg.block k (by omega) (fun e => by have := (h.ox.lt k e.symm).1; omega)⟩
  · have hB := grown_none hg
    refine ⟨h.ia.kept hB, h.ib.kept hB, h1, h.oy.kept hB, fun k hk => ?_, h.ay, h.bel.trans (hB.mono hb), Nat.lt_of_lt_of_le h.la hg.size, Nat.lt_of_lt_of_le h.lb hg.size⟩
    rw [e1] at hk
    cases hk
    exact ⟨by have := h.lb; omega, fun e => by have := (h.oy.lt _ e).2; omega⟩
/-- y grows -/
theorem Two.growY {base : Nat} {W9 W W' : World} {ga gb : Nat} {A D X Y : List Int} {vx vy v' : Value} {z : Int} (h : Two base W9 W ga gb A D X Y vx vy) (hb : base ≤ W.heap.size) (h1 : OwnI W' base v' ((D ++ Y) ++ [z]))
    (h2 : (v'.ownBlock = vy.ownBlock ∧ W.grownBy W' vy.ownBlock) ∨ (v'.ownBlock = some W.heap.size ∧ W.grownBy W' none)) : Two base W9 W' ga gb A D X (Y ++ [z]) vx v' := by
  rw [List.append_assoc] at h1
  rcases h2 with ⟨e1, hg⟩ | ⟨e1, hg⟩
  · refine ⟨h.ia.grownBy hg (fun e => h.ay ga e rfl), ?_, h.ox.grown hg (fun k hk e => (h.ax k hk).2 e), h1, fun k hk => ⟨(h.ax k hk).1, by rw [e1]; exact (h.ax k hk).2⟩, fun k hk => h.ay k (by rw [← e1]; exact hk), h.bel.trans ?_, Nat.lt_of_lt_of_le h.la hg.size, Nat.lt_of_lt_of_le h.lb hg.size⟩
    · by_cases hgb : vy.ownBlock = some gb
      · exact h1.prefix (by rw [e1]; exact hgb)
      · exact h.ib.grownBy hg hgb
    · exact ⟨hg.os, hg.tape, hg.output, hg.size, fun k hk => hg.block k (by omega) (fun e => by have := (h.oy.lt k e.symm).1; omega)⟩
  · have hB := grown_none hg
    refine ⟨h.ia.kept hB, h.ib.kept hB, h.ox.kept hB, h1, fun k hk => ⟨(h.ax k hk).1, fun e => ?_⟩, fun k hk => ?_, h.bel.trans (hB.mono hb), Nat.lt_of_lt_of_le h.la hg.size, Nat.lt_of_lt_of_le h.lb hg.size⟩
    · rw [e1] at e; cases e; have := (h.ox.lt _ hk).2; omega
    · rw [e1] at hk; cases hk; have := h.la; omega

end Go.Proofs.Ytjmlogljfboleaa
