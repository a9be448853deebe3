/-
  APPEND AT A ROW OF ONE'S OWN, of whatever elements; within a region that draws.
-/
import Derived.Test.YtbmohlkcmhhpgaaGreatBkSnap
import Derived.Laws.AppendOwnNone
import Derived.Maps.AppendAt
import Derived.Deep.RegionLaw
namespace Go.Proofs.YtbmohlkcmhhpgaaGreat
open Go.RowKit Go.Sort

/-- a kind of elements -/
structure AKd (TS TE : TypeId) (sz bt : Nat) (z : Value) : Prop where
  u : Tryz.prog.underlying TS = some (.slice TE)
  info : (Tryz.prog.info? TE).map (fun i => (i.zero, i.size, i.bytes)) = some (some z, sz, bt)
  zs : z.cells.size = sz
  pos : 0 < sz
theorem akPin : AKd 22 92 2 16 (.agg #[.int .i64 0, .int .i64 0]) := ⟨Tryz.underlying22, by kernel_rfl, rfl, by omega⟩
theorem akStp : AKd 48 96 4 32 (.agg #[.int .i64 0, .int .i64 0, .bool false, .int .i64 0]) := ⟨Tryz.underlying48, by kernel_rfl, rfl, by omega⟩
theorem akCh : AKd 23 50 3 40 (.agg #[.int .i64 0, .int .i64 0, .slice none 0 0]) := ⟨Tryz.underlying23, by kernel_rfl, rfl, by omega⟩
theorem akVer : AKd 72 101 4 32 (.agg #[.int .i64 0, .int .i64 0, .int .i64 0, .int .i64 0]) := ⟨Tryz.underlying72, by kernel_rfl, rfl, by omega⟩
/-- append of a slice whose cells lie anywhere -/
theorem AKd.app {TS TE : TypeId} {sz bt : Nat} {z : Value} (H : AKd TS TE sz bt z) {w : World} (ty : TypeId) (base : Nat) (v : Value) (n : Nat) (xs : List Value) (hown : w.ownsRow base TE sz v n xs) (N : Nat) (ao : Option Addr) (m c : Nat) (ys : List Value) (hm : ys.length = m * sz) (hsrc : CsAt N w ao ys) (h0 : ao = none → c = 0) (h1 : ∀ u ∈ ys, u.oneCell' = true) (hlen : n + m ≤ 1000000000000) (hb : bt ≤ 100) (hbase : base ≤ w.heap.size) :
    ∃ v' w', (Builtin.append_ #[TS, TS] ty #[v, .slice ao m c]).run Tryz.prog w = .ok v' w' ∧ w'.ownsRow base TE sz v' (n + m) (xs ++ ys) ∧ w.grownBy w' v.ownBlock ∧ (v'.ownBlock = v.ownBlock ∨ v'.ownBlock = some w.heap.size) := by
  obtain ⟨i0, hi, hz0, hz1, hz2⟩ := info_parts H.info
  have hby : (n + m) * bt ≤ 140737488355328 := by
    have h2 : (n + m) * bt ≤ 1000000000000 * 100 := Nat.mul_le_mul hlen hb
    omega
  cases ao with
  | none =>
    have hy : ys = [] := by
      cases ys with
      | nil => rfl
      | cons y ys =>
        obtain ⟨_, _, h2, _⟩ := hsrc 0 y rfl
        cases h2
    subst hy
    have hm0 : m = 0 := by
      rcases Nat.eq_zero_or_pos m with h | h
      · exact h
      · have := Nat.mul_pos h H.pos; simp at hm; omega
    subst hm0
    obtain rfl := h0 rfl
    exact ⟨v, w, run_append_owned_none (P := Tryz.prog) (w := w) base TS ty TE i0 sz H.u hi v n xs hown, by simpa using hown, World.grownBy.refl _ _, .inl rfl⟩
  | some ad =>
    obtain ⟨v', w', hr, h2, h3, _, h5⟩ := run_append_own_at (P := Tryz.prog) (w := w) base TS ty TE i0 z sz bt H.u hi hz0 hz1 hz2 H.zs H.pos v n xs hown ad m c ys hm (by
      intro j u hu
      obtain ⟨b, off, e, _, h⟩ := hsrc j u hu
      cases e
      rw [addr_add]
      exact h) h1 (by unfold maxLen; omega) hby hbase
    exact ⟨v', w', hr, h2, h3, h5⟩
/-- one element, laid for an append -/
theorem CsAt.new (w : World) (ys : List Value) (TE : TypeId) : CsAt (w.heap.size + 1) (w.alloc (.cells ys.toArray TE)) (some ⟨w.heap.size, 0, none⟩) ys := fun j u hu => by
  refine ⟨w.heap.size, 0, rfl, by omega, ?_⟩
  have hb : (w.alloc (.cells ys.toArray TE)).heap[w.heap.size]? = some (.cells ys.toArray TE (0, 0)) := heap_alloc_new _ _ rfl
  rw [World.cell?, hb, Nat.zero_add]
  simpa using hu
theorem step_appG {w : World} {ops : Array Oper} {o : Oper} {a : Act} {K' : Act → World → Prop} {Q : Exit → Act → World → Prop} {E : Prop} (hgd : o.guard = none) (s x : Operand) (TS : TypeId)
    (ho : o.op = .call { callee := .builtin .append, args := #[s, x], argTypes := #[TS, TS] }) (v u : Value) (hs : a.eval s = v) (hx : a.eval x = u) {post : Value → World → Prop}
    (hr : ∀ ty, ∃ v' w', (Builtin.append_ #[TS, TS] ty #[v, u]).run Tryz.prog w = .ok v' w' ∧ post v' w') (h : ∀ v' w', post v' w' → K' (a.put o.dst v') w') :
    if Region.wanted o (yielded ops a.tmps) = true then Oper.wp Tryz.prog o a w K' Q else E := by
  have hw : Region.wanted o (yielded ops a.tmps) = true := by simp [Region.wanted, hgd]
  rw [if_pos hw]
  obtain ⟨v', w', hr, h2⟩ := hr o.type
  unfold Oper.wp execOp
  simp only [ho, resolve, invoke, builtin, Sem.run_bind, Sem.run_pure, Result.andThen_ok, List.map_toArray, List.map_cons, List.map_nil, hs, hx, hr]
  exact h v' w' h2
/-- the document's versions -/
def v4s : List V4 → List Value
  | [] => []
  | v :: l => .int .i64 v.1.1 :: .int .i64 v.1.2 :: .int .i64 v.2.1 :: .int .i64 v.2.2 :: v4s l
theorem v4s_append : ∀ A C : List V4, v4s (A ++ C) = v4s A ++ v4s C
  | [], _ => rfl
  | x :: A, C => by simp only [List.cons_append, v4s, v4s_append A C]
theorem v4s_length : ∀ l : List V4, (v4s l).length = l.length * 4
  | [] => rfl
  | x :: l => by simp only [v4s, List.length_cons, v4s_length l]; omega
theorem v4s_one : ∀ (l : List V4), ∀ v ∈ v4s l, v.oneCell' = true
  | [] => by simp [v4s]
  | x :: l => by
    intro v hv
    simp only [v4s, List.mem_cons] at hv
    rcases hv with rfl | rfl | rfl | rfl | h
    · rfl
    · rfl
    · rfl
    · rfl
    · exact v4s_one l v h
/-- the document's book -/
structure RB (w : World) (base R : Nat) (room last low : Int) (av pv : Value) (all : List V4) (pins : List (Int × Int)) : Prop where
  bk : w.heap[R]? = some (.cells #[.int .i64 room, .int .i64 last, .int .i64 low, av, pv] 74 (0, 0))
  ra : w.ownsRow base 101 4 av all.length (v4s all)
  rp : w.ownsRow base 92 2 pv pins.length (pns pins)
  le : base ≤ R
theorem rowSame {w w' : World} {base : Nat} {T : TypeId} {sz n : Nat} {v : Value} {xs : List Value} (h : w.ownsRow base T sz v n xs) (hs : ∀ g, v.ownBlock = some g → w'.heap[g]? = w.heap[g]?) : w'.ownsRow base T sz v n xs := by
  obtain ⟨hl, h⟩ := h
  refine ⟨hl, ?_⟩
  rcases h with h | ⟨g, cap, cur, rfl, hg, hh, r⟩
  · exact .inl h
  · exact .inr ⟨g, cap, cur, rfl, hg, (hs g rfl).trans hh, r⟩
/-- what kind of block a row has -/
theorem rowBlock {w : World} {base : Nat} {T : TypeId} {sz n : Nat} {v : Value} {xs : List Value} (h : w.ownsRow base T sz v n xs) {g : Nat} (hg : v.ownBlock = some g) : ∃ cur, w.heap[g]? = some (.cells cur T (0, 0)) := by
  obtain ⟨_, ⟨rfl, _⟩ | ⟨g', cap, cur, rfl, _, hh, _⟩⟩ := h
  · cases hg
  · cases hg; exact ⟨cur, hh⟩
section
variable {w w' : World} {base R : Nat} {room last low : Int} {av pv : Value} {all : List V4} {pins : List (Int × Int)}
theorem RB.cells (h : RB w base R room last low av pv all pins) : w.cell? ⟨R, 0, none⟩ = some (.int .i64 room) ∧ w.cell? ⟨R, 1, none⟩ = some (.int .i64 last) ∧ w.cell? ⟨R, 2, none⟩ = some (.int .i64 low) ∧ w.cell? ⟨R, 3, none⟩ = some av ∧ w.cell? ⟨R, 4, none⟩ = some pv := by
  refine ⟨?_, ?_, ?_, ?_, ?_⟩ <;> simp [World.cell?, h.bk]
theorem RB.frozen (h : RB w base R room last low av pv all pins) (i : Nat) : w.frozen? ⟨R, i, none⟩ = false := frozen_of_row _ _ _ _ _ h.bk
theorem RB.same (h : RB w base R room last low av pv all pins) (hs : ∀ k, base ≤ k → k < w.heap.size → w'.heap[k]? = w.heap[k]?) : RB w' base R room last low av pv all pins :=
  ⟨(hs R h.le (blk_lt h.bk)).trans h.bk, rowSame h.ra (fun g hg => hs g (World.ownsRow.lt h.ra g hg).1 (World.ownsRow.lt h.ra g hg).2), rowSame h.rp (fun g hg => hs g (World.ownsRow.lt h.rp g hg).1 (World.ownsRow.lt h.rp g hg).2), h.le⟩
theorem RB.kept (h : RB w base R room last low av pv all pins) (hb : Below w.heap.size w w') : RB w' base R room last low av pv all pins := h.same (fun k _ hk => hb.block k hk)
theorem RB.neA (h : RB w base R room last low av pv all pins) : av.ownBlock ≠ some R := fun e => by
  obtain ⟨cur, hc⟩ := rowBlock h.ra e
  rw [h.bk] at hc
  cases hc
theorem RB.neP (h : RB w base R room last low av pv all pins) : pv.ownBlock ≠ some R := fun e => by
  obtain ⟨cur, hc⟩ := rowBlock h.rp e
  rw [h.bk] at hc
  cases hc
theorem RB.neAP (h : RB w base R room last low av pv all pins) {g : Nat} (ha : av.ownBlock = some g) (hp : pv.ownBlock = some g) : False := by
  obtain ⟨cur, hc⟩ := rowBlock h.ra ha
  obtain ⟨cur', hc'⟩ := rowBlock h.rp hp
  rw [hc] at hc'
  cases hc'
theorem RB.setLast (h : RB w base R room last low av pv all pins) (x : Int) : RB (w.setCell ⟨R, 1, none⟩ (.int .i64 x)) base R room x low av pv all pins := by
  have hs : ∀ k, k ≠ R → (w.setCell ⟨R, 1, none⟩ (.int .i64 x)).heap[k]? = w.heap[k]? := fun k hk => heap_setCell_other _ _ _ _ (fun e => hk e)
  have h1 := heap_setCell_same w R 1 _ _ (.int .i64 x) h.bk
  exact ⟨h1, rowSame h.ra (fun g hg => hs g (fun e => h.neA (by rw [hg, e]))), rowSame h.rp (fun g hg => hs g (fun e => h.neP (by rw [hg, e]))), h.le⟩
theorem RB.setLow (h : RB w base R room last low av pv all pins) (x : Int) : RB (w.setCell ⟨R, 2, none⟩ (.int .i64 x)) base R room last x av pv all pins := by
  have hs : ∀ k, k ≠ R → (w.setCell ⟨R, 2, none⟩ (.int .i64 x)).heap[k]? = w.heap[k]? := fun k hk => heap_setCell_other _ _ _ _ (fun e => hk e)
  have h1 := heap_setCell_same w R 2 _ _ (.int .i64 x) h.bk
  exact ⟨h1, rowSame h.ra (fun g hg => hs g (fun e => h.neA (by rw [hg, e]))), rowSame h.rp (fun g hg => hs g (fun e => h.neP (by rw [hg, e]))), h.le⟩
/-- the list of versions has grown, and is stored -/
theorem RB.putAll (h : RB w base R room last low av pv all pins) {av' : Value} {all' : List V4} (ho : w'.ownsRow base 101 4 av' all'.length (v4s all')) (hg : w.grownBy w' av.ownBlock) (hat : av'.ownBlock = av.ownBlock ∨ av'.ownBlock = some w.heap.size) :
    (w'.cell? ⟨R, 3, none⟩ = some av ∧ w'.frozen? ⟨R, 3, none⟩ = false) ∧ RB (w'.setCell ⟨R, 3, none⟩ av') base R room last low av' pv all' pins := by
  have hR := blk_lt h.bk
  have hbk : w'.heap[R]? = _ := (hg.block R hR (fun e => h.neA e.symm)).trans h.bk
  have hs : ∀ k, k ≠ R → (w'.setCell ⟨R, 3, none⟩ av').heap[k]? = w'.heap[k]? := fun k hk => heap_setCell_other _ _ _ _ (fun e => hk e)
  refine ⟨⟨by simp [World.cell?, hbk], frozen_of_row _ _ _ _ _ hbk⟩, heap_setCell_same w' R 3 _ _ av' hbk, rowSame ho (fun g hg' => hs g (fun e => ?_)), ?_, h.le⟩
  · rcases hat with e1 | e1
    · exact h.neA (by rw [← e1, hg', e])
    · rw [hg'] at e1; cases e1; omega
  · refine rowSame h.rp (fun g hg' => (hs g (fun e => h.neP (by rw [hg', e]))).trans (hg.block g (World.ownsRow.lt h.rp g hg').2 (fun e => ?_)))
    exact h.neAP e.symm hg'
theorem RB.putPins (h : RB w base R room last low av pv all pins) {pv' : Value} {pins' : List (Int × Int)} (ho : w'.ownsRow base 92 2 pv' pins'.length (pns pins')) (hg : w.grownBy w' pv.ownBlock) (hat : pv'.ownBlock = pv.ownBlock ∨ pv'.ownBlock = some w.heap.size) :
    (w'.cell? ⟨R, 4, none⟩ = some pv ∧ w'.frozen? ⟨R, 4, none⟩ = false) ∧ RB (w'.setCell ⟨R, 4, none⟩ pv') base R room last low av pv' all pins' := by
  have hR := blk_lt h.bk
  have hbk : w'.heap[R]? = _ := (hg.block R hR (fun e => h.neP e.symm)).trans h.bk
  have hs : ∀ k, k ≠ R → (w'.setCell ⟨R, 4, none⟩ pv').heap[k]? = w'.heap[k]? := fun k hk => heap_setCell_other _ _ _ _ (fun e => hk e)
  refine ⟨⟨by simp [World.cell?, hbk], frozen_of_row _ _ _ _ _ hbk⟩, heap_setCell_same w' R 4 _ _ pv' hbk, ?_, rowSame ho (fun g hg' => hs g (fun e => ?_)), h.le⟩
  · refine rowSame h.ra (fun g hg' => (hs g (fun e => h.neA (by rw [hg', e]))).trans (hg.block g (World.ownsRow.lt h.ra g hg').2 (fun e => ?_)))
    exact h.neAP hg' e.symm
  · rcases hat with e1 | e1
    · exact h.neP (by rw [← e1, hg', e])
    · rw [hg'] at e1; cases e1; omega
end
def RNewPost (w : World) (cap : Int) (e : Ending) (w' : World) : Prop :=
  ((cap < 1 ∨ 65536 < cap) ∧ e = .returned (.tuple #[.pointer none, .int .i64 91]) ∧ w' = w) ∨
  ((1 ≤ cap ∧ cap ≤ 65536) ∧ e = .returned (.tuple #[ptr w.heap.size, .int .i64 0]) ∧ RB w' w.heap.size w.heap.size cap 0 0 (.slice none 0 0) (.slice none 0 0) [] [] ∧ Below w.heap.size w w' ∧ w'.heap.size = w.heap.size + 1)
set_option maxRecDepth 100000 in
set_option maxHeartbeats 1000000 in
theorem rnew_any (w : World) (cap : Int) : Calls Tryz.prog 10 #[.int .i64 cap] w fun e w' => RNewPost w cap e w' := by
  by_cases h1 : cap < 1
  · have h1b : decide (cap < 1) = true := decide_eq_true h1
    go_enter Tryz.func10, Tryz.ntmps10
    go_wp2
    go_ret2
    exact .inl ⟨.inl h1, rfl, rfl⟩
  have h1b : decide (cap < 1) = false := decide_eq_false h1
  by_cases h2 : 65536 < cap
  · have h2b : decide (65536 < cap) = true := decide_eq_true h2
    go_enter Tryz.func10, Tryz.ntmps10
    go_wp2
    go_ret2
    exact .inl ⟨.inr h2, rfl, rfl⟩
  have h2b : decide (65536 < cap) = false := decide_eq_false h2
  go_enter Tryz.func10, Tryz.ntmps10
  go_wp2
  go_ret2
  exact .inr ⟨by omega, rfl, ⟨heap_alloc_new _ _ rfl, World.ownsRow_nil _ _ _ _, World.ownsRow_nil _ _ _ _, Nat.le_refl _⟩, (Below.refl _ _).alloc (Nat.le_refl _) _, by simp⟩
end Go.Proofs.YtbmohlkcmhhpgaaGreat
