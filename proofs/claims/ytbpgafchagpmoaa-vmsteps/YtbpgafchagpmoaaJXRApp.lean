import Derived.Test.YtbpgafchagpmoaaXClone
import Derived.Deep.RegionLaw
import Derived.Test.YtbpgafchagpmoaaXRun
import Derived.Test.YtbpgafchagpmoaaJXMove
import Derived.Deep.DeepCutAuto
import Derived.Test.YtbpgafchagpmoaaXSame
import Derived.Laws.OwnMore
import Derived.Deep.DeepAppendRoom
/-
  append OF A LIST THAT MAY BE nil TO A ROW OF ONE's OWN.
-/
namespace Go.Proofs.Ytbpgafchagpmoaa
open Go.RowKit Go.Sort

theorem run_append_src {w : World} (base : Nat) (t ty e : TypeId) (i0 : TypeInfo) (z : Value) (size bytes : Nat) (ht : Try.prog.underlying t = some (.slice e)) (hi : Try.prog.info? e = some i0) (hz0 : i0.zero = some z) (hz1 : i0.size = size) (hz2 : i0.bytes = bytes) (hzs : z.cells.size = size) (hsz : 0 < size)
    (v : Value) (n : Nat) (xs : List Value) (hown : w.ownsRow base e size v n xs) (ao : Option Addr) (m c : Nat) (ys : List Value) (hl : ys.length = m * size) (hc : CellsAt w ao ys) (hnil : ao = none → m = 0 ∧ c = 0) (h1 : ∀ u ∈ ys, u.oneCell' = true) (hm : n + m ≤ maxLen) (hb : (n + m) * bytes ≤ 140737488355328) (hbase : base ≤ w.heap.size) :
    ∃ v' w', (Builtin.append_ #[t, t] ty #[v, .slice ao m c]).run Try.prog w = .ok v' w' ∧ w'.ownsRow base e size v' (n + m) (xs ++ ys) ∧ w.grownBy w' v.ownBlock ∧ (v'.ownBlock = v.ownBlock ∨ v'.ownBlock = some w.heap.size) := by
  cases ao with
  | none =>
    obtain ⟨rfl, rfl⟩ := hnil rfl
    have h0 : ys = [] := List.eq_nil_of_length_eq_zero (by rw [hl, Nat.zero_mul])
    subst h0
    rw [List.append_nil]
    exact ⟨v, w, run_append_owned_none (P := Try.prog) (w := w) base t ty e i0 size ht hi v n xs hown, hown, World.grownBy.refl _ _, .inl rfl⟩
  | some ad =>
    have hx : ∀ j u, ys[j]? = some u → w.cell? (ad.add j) = some u := fun j u hu => by
      rcases hc with h0 | ⟨b, off, e, hc⟩
      · subst h0; simp at hu
      · cases e; rw [addr_add]; exact hc j u hu
    obtain ⟨v', w', hr, h2, h3, _, h5⟩ := run_append_own_at (P := Try.prog) w base t ty e i0 z size bytes ht hi hz0 hz1 hz2 hzs hsz v n xs hown ad m c ys hl hx h1 hm hb hbase
    exact ⟨v', w', hr, h2, h3, h5⟩
section
variable {w : World} {ops : Array Oper} {rest : List Oper} {o : Oper} {a : Act} {K : Act → World → Prop} {Q : Exit → Act → World → Prop} {E : Prop}
theorem step_append_src (hgd : o.guard = none) (s x : Operand) (t e : TypeId) (i0 : TypeInfo) (z : Value) (size bytes : Nat) (ht : Try.prog.underlying t = some (.slice e)) (hi : Try.prog.info? e = some i0) (hz0 : i0.zero = some z) (hz1 : i0.size = size) (hz2 : i0.bytes = bytes) (hzs : z.cells.size = size) (hsz : 0 < size)
    (ho : o.op = .call { callee := .builtin .append, args := #[s, x], argTypes := #[t, t] }) (base : Nat) (v : Value) (n : Nat) (xs : List Value) (hs : a.eval s = v) (hown : w.ownsRow base e size v n xs) (ao : Option Addr) (m c : Nat) (ys : List Value) (hx : a.eval x = .slice ao m c) (hl : ys.length = m * size) (hc : CellsAt w ao ys) (hnil : ao = none → m = 0 ∧ c = 0) (h1 : ∀ u ∈ ys, u.oneCell' = true) (hm : n + m ≤ maxLen) (hb : (n + m) * bytes ≤ 140737488355328) (hbase : base ≤ w.heap.size)
    (h : ∀ v' w', w'.ownsRow base e size v' (n + m) (xs ++ ys) → w.grownBy w' v.ownBlock → (v'.ownBlock = v.ownBlock ∨ v'.ownBlock = some w.heap.size) → K (a.put o.dst v') w') :
    if Region.wanted o (yielded ops a.tmps) = true then Oper.wp Try.prog o a w K Q else E := by
  have hw : Region.wanted o (yielded ops a.tmps) = true := by simp [Region.wanted, hgd]
  rw [if_pos hw]
  obtain ⟨v', w', hr, h2, h3, h4⟩ := run_append_src base t o.type e i0 z size bytes ht hi hz0 hz1 hz2 hzs hsz v n xs hown ao m c ys hl hc hnil h1 hm hb hbase
  unfold Oper.wp execOp
  simp only [ho, resolve, invoke, builtin, Sem.run_bind, Sem.run_pure, Result.andThen_ok, List.map_toArray, List.map_cons, List.map_nil, hs, hx, hr]
  exact h v' w' h2 h3 h4
theorem wpList_append_src (hgd : o.guard = none) (s x : Operand) (t e : TypeId) (i0 : TypeInfo) (z : Value) (size bytes : Nat) (ht : Try.prog.underlying t = some (.slice e)) (hi : Try.prog.info? e = some i0) (hz0 : i0.zero = some z) (hz1 : i0.size = size) (hz2 : i0.bytes = bytes) (hzs : z.cells.size = size) (hsz : 0 < size)
    (ho : o.op = .call { callee := .builtin .append, args := #[s, x], argTypes := #[t, t] }) (base : Nat) (v : Value) (n : Nat) (xs : List Value) (hs : a.eval s = v) (hown : w.ownsRow base e size v n xs) (ao : Option Addr) (m c : Nat) (ys : List Value) (hx : a.eval x = .slice ao m c) (hl : ys.length = m * size) (hc : CellsAt w ao ys) (hnil : ao = none → m = 0 ∧ c = 0) (h1 : ∀ u ∈ ys, u.oneCell' = true) (hm : n + m ≤ maxLen) (hb : (n + m) * bytes ≤ 140737488355328) (hbase : base ≤ w.heap.size)
    (h : ∀ v' w', w'.ownsRow base e size v' (n + m) (xs ++ ys) → w.grownBy w' v.ownBlock → (v'.ownBlock = v.ownBlock ∨ v'.ownBlock = some w.heap.size) → wpList Try.prog ops Q rest (a.put o.dst v') w') : wpList Try.prog ops Q (o :: rest) a w := by
  obtain ⟨v', w', hr, h2, h3, h4⟩ := run_append_src base t o.type e i0 z size bytes ht hi hz0 hz1 hz2 hzs hsz v n xs hown ao m c ys hl hc hnil h1 hm hb hbase
  refine wpList_plain hgd fun K hK' => ?_
  unfold Oper.wp
  simp [execOp, ho, resolve, invoke, builtin, hs, hx, hr, Result.andThen]
  exact hK' _ _ (h v' w' h2 h3 h4)
end
end Go.Proofs.Ytbpgafchagpmoaa
/-
  given: CALLS AND THEIR BOXES, LISTS WITH MARKS.
-/
namespace Go.Proofs.Ytbpgafchagpmoaa
open Go.RowKit Go.Sort

abbrev cP (p : Nums) (v4 v5 v6 : Value) : Array Value := #[.int .i64 p.args, .int .i64 p.reads, .int .i64 p.writes, .int .i64 p.locals, v4, v5, v6]
abbrev cQ (p : Nums) (v4 v5 v6 : Value) : Obj := .cells (cP p v4 v5 v6) 28
abbrev zNums : Nums := ⟨0, 0, 0, 0⟩
abbrev nilS : Value := .slice none 0 0
/-- block b is a Call's box -/
def CB (W : World) (b : Nat) (p : Nums) (v4 v5 v6 : Value) : Prop := W.heap[b]? = some (.cells (cP p v4 v5 v6) 28 (0, 0))
section
variable {W W' : World} {b C : Nat} {p : Nums} {v4 v5 v6 : Value}
theorem CB.cells (h : CB W b p v4 v5 v6) : W.cell? ⟨b, 0, none⟩ = some (.int .i64 p.args) ∧ W.cell? ⟨b, 1, none⟩ = some (.int .i64 p.reads) ∧ W.cell? ⟨b, 2, none⟩ = some (.int .i64 p.writes) ∧ W.cell? ⟨b, 3, none⟩ = some (.int .i64 p.locals) ∧ W.cell? ⟨b, 4, none⟩ = some v4 ∧ W.cell? ⟨b, 5, none⟩ = some v5 ∧ W.cell? ⟨b, 6, none⟩ = some v6 := by
  refine ⟨?_, ?_, ?_, ?_, ?_, ?_, ?_⟩ <;> simp [World.cell?, show W.heap[b]? = _ from h]
theorem CB.frozen (h : CB W b p v4 v5 v6) (i : Nat) : W.frozen? ⟨b, i, none⟩ = false := frozen_of_row W b i _ _ h
theorem CB.lt (h : CB W b p v4 v5 v6) : b < W.heap.size := (Array.getElem?_eq_some_iff.1 h).1
theorem CB.below (h : CB W b p v4 v5 v6) (hb : Go.RowKit.Below C W W') (hc : b < C) : CB W' b p v4 v5 v6 := (hb.block b hc).trans h
theorem CB.set (h : CB W b p v4 v5 v6) (v : Value) : CB (W.setCell ⟨b, 4, none⟩ v) b p v v5 v6 ∧ CB (W.setCell ⟨b, 5, none⟩ v) b p v4 v v6 ∧ CB (W.setCell ⟨b, 6, none⟩ v) b p v4 v5 v :=
  ⟨heap_setCell_same W b 4 _ _ v h, heap_setCell_same W b 5 _ _ v h, heap_setCell_same W b 6 _ _ v h⟩
theorem CB.other (h : CB W b p v4 v5 v6) {c i : Nat} (v : Value) (hc : b ≠ c) : CB (W.setCell ⟨c, i, none⟩ v) b p v4 v5 v6 := (heap_setCell_other W ⟨c, i, none⟩ b v hc).trans h
theorem load_call (h : CB W b p v4 v5 v6) : (loadVar 28 ⟨b, 0, none⟩).run Try.prog W = .ok (.agg (cP p v4 v5 v6)) W := by
  obtain ⟨q0, q1, q2, q3, q4, q5, q6⟩ := h.cells
  simp [go_sem, q0, q1, q2, q3, q4, q5, q6]
end
theorem own_neC {W : World} {base e size n b : Nat} {v : Value} {xs : List Value} {p : Nums} {v4 v5 v6 : Value} (h : W.ownsRow base e size v n xs) (hr : CB W b p v4 v5 v6) (he : e ≠ 28) {g : Nat} (hg : v.ownBlock = some g) : g ≠ b := by
  intro e1
  subst e1
  obtain ⟨_, ⟨rfl, _⟩ | ⟨g', cap, cur, rfl, _, hh, _⟩⟩ := h
  · cases hg
  · cases hg
    have := hh.symm.trans hr
    simp only [Option.some.injEq, Obj.cells.injEq] at this
    exact he this.2.1
/-- a list with a mark behind it -/
def SL (W : World) (base e size g n k : Nat) (xs : List Value) : Prop := n + 1 ≤ k ∧ W.ownsRow base e size (.slice (some ⟨g, 0, none⟩) (n + 1) k) (n + 1) xs
section
variable {W W' : World} {base e size g n k : Nat} {xs : List Value}
theorem SL.grow (h : SL W base e size g n k xs) (hb : Go.RowKit.Below W.heap.size W W') : SL W' base e size g n k xs := ⟨h.1, ownsRow_same h.2 (fun x hx => hb.block x (World.ownsRow.lt h.2 x hx).2)⟩
theorem SL.set (h : SL W base e size g n k xs) {b i : Nat} {p : Nums} {v4 v5 v6 : Value} (hr : CB W b p v4 v5 v6) (he : e ≠ 28) (v : Value) : SL (W.setCell ⟨b, i, none⟩ v) base e size g n k xs := ⟨h.1, ownsRow_same h.2 (fun x hx => heap_setCell_other W ⟨b, i, none⟩ x v (own_neC h.2 hr he hx))⟩
end
/-- rows that are made behind a world w -/
structure AP (w W : World) (e size : Nat) (v : Value) (n : Nat) (xs : List Value) : Prop where
  bel : Go.RowKit.Below w.heap.size w W
  own : W.ownsRow w.heap.size e size v n xs
section
variable {w W W' : World} {e size n n' : Nat} {v v' : Value} {xs xs' : List Value}
theorem AP.made (hb : Go.RowKit.Below w.heap.size w W) (e size : Nat) : AP w (W.alloc (.cells #[] e)) e size (.slice (some ⟨W.heap.size, 0, none⟩) 0 0) 0 [] :=
  ⟨hb.alloc hb.size _, World.ownsRow_made W #[] 0 hb.size (Nat.zero_le _) (by simp)⟩
theorem AP.madeAt (hb : Go.RowKit.Below w.heap.size w W) {b : Nat} (hs : W.heap.size = b) (e size : Nat) : AP w (W.alloc (.cells #[] e)) e size (.slice (some ⟨b, 0, none⟩) 0 0) 0 [] := by
  subst hs; exact AP.made hb e size
theorem AP.alloc (x : AP w W e size v n xs) (o : Obj) : AP w (W.alloc o) e size v n xs :=
  ⟨x.bel.alloc x.bel.size _, ownsRow_same x.own (fun g hg => heap_alloc_old _ _ (World.ownsRow.lt x.own g hg).2)⟩
theorem AP.app (x : AP w W e size v n xs) (h : W'.ownsRow w.heap.size e size v' n' xs') (hg : W.grownBy W' v.ownBlock) : AP w W' e size v' n' xs' :=
  ⟨x.bel.trans ⟨hg.os, hg.tape, hg.output, hg.size, fun k hk => hg.block k (Nat.lt_of_lt_of_le hk x.bel.size) (fun e => by have := (World.ownsRow.lt x.own k e.symm).1; omega)⟩, h⟩
end
theorem mk_app {W W' : World} {b : Nat} {row : Option Nat} {ys : List Value} (h : CellsAt W (some ⟨b, 0, none⟩) ys) (hg : W.grownBy W' row) (hr : row ≠ some b) : CellsAt W' (some ⟨b, 0, none⟩) ys := by
  rcases h with h | ⟨b', off, e, hc⟩
  · exact .inl h
  · cases e
    refine .inr ⟨b, 0, rfl, fun j u hu => ?_⟩
    have h1 := hc j u hu
    have h2 := hg.block b (cell_lt h1) (fun e => hr e.symm)
    simp only [World.cell?] at h1 ⊢
    rw [h2]; exact h1
theorem mk_alloc {W : World} {b : Nat} {ys : List Value} (h : CellsAt W (some ⟨b, 0, none⟩) ys) (o : Obj) : CellsAt (W.alloc o) (some ⟨b, 0, none⟩) ys := h.below ((Below.refl _ _).alloc (Nat.le_refl _) _)
theorem mk_new (W : World) (ys : List Value) (e : Nat) : CellsAt (W.alloc (.cells ys.toArray e)) (some ⟨W.heap.size, 0, none⟩) ys :=
  .inr ⟨W.heap.size, 0, rfl, fun j u hu => by rw [World.cell?, heap_alloc_new _ _ rfl, Nat.zero_add]; simpa using hu⟩
theorem mk_newAt (W : World) (b : Nat) (hs : W.heap.size = b) (ys : List Value) (e : Nat) : CellsAt (W.alloc (.cells ys.toArray e)) (some ⟨b, 0, none⟩) ys := by
  subst hs; exact mk_new W ys e
/-- the state inside given -/
structure GS (w W : World) (p : Nums) (u4 u5 u6 v4 v5 v6 : Value) : Prop where
  bel : Go.RowKit.Below w.heap.size w W
  cb : CB W w.heap.size p u4 u5 u6
  zb : CB W (w.heap.size + 1) zNums nilS nilS nilS
  db : CB W (w.heap.size + 1 + 1) p v4 v5 v6
section
variable {w W W' : World} {p : Nums} {u4 u5 u6 v4 v5 v6 : Value}
theorem GS.start (w : World) (p : Nums) (u4 u5 u6 : Value) : GS w (((w.alloc (cQ p u4 u5 u6)).alloc (cQ zNums nilS nilS nilS)).alloc (cQ p u4 nilS nilS)) p u4 u5 u6 u4 nilS nilS :=
  ⟨(((Below.refl _ _).alloc (Nat.le_refl _) _).alloc (by simp) _).alloc (by simp; omega) _, (heap_alloc_old _ _ (by simp; omega)).trans ((heap_alloc_old _ _ (by simp)).trans (heap_alloc_new _ _ rfl)), (heap_alloc_old _ _ (by simp)).trans (heap_alloc_new _ _ (by simp)), heap_alloc_new _ _ (by simp)⟩
theorem GS.grow (x : GS w W p u4 u5 u6 v4 v5 v6) (hb : Go.RowKit.Below W.heap.size W W') : GS w W' p u4 u5 u6 v4 v5 v6 :=
  ⟨x.bel.trans (hb.mono x.bel.size), x.cb.below hb x.cb.lt, x.zb.below hb x.zb.lt, x.db.below hb x.db.lt⟩
theorem GS.set (x : GS w W p u4 u5 u6 v4 v5 v6) (v : Value) : GS w (W.setCell ⟨w.heap.size + 1 + 1, 4, none⟩ v) p u4 u5 u6 v v5 v6 ∧ GS w (W.setCell ⟨w.heap.size + 1 + 1, 5, none⟩ v) p u4 u5 u6 v4 v v6 ∧ GS w (W.setCell ⟨w.heap.size + 1 + 1, 6, none⟩ v) p u4 u5 u6 v4 v5 v :=
  ⟨⟨x.bel.trans (below_setCell _ _ (by show w.heap.size ≤ w.heap.size + 1 + 1; omega)), x.cb.other v (by omega), x.zb.other v (by omega), (x.db.set v).1⟩, ⟨x.bel.trans (below_setCell _ _ (by show w.heap.size ≤ w.heap.size + 1 + 1; omega)), x.cb.other v (by omega), x.zb.other v (by omega), (x.db.set v).2.1⟩, ⟨x.bel.trans (below_setCell _ _ (by show w.heap.size ≤ w.heap.size + 1 + 1; omega)), x.cb.other v (by omega), x.zb.other v (by omega), (x.db.set v).2.2⟩⟩
end
theorem ap_cell {w0 W V : World} {e size n : Nat} {v : Value} {xs : List Value} (h : AP W V e size v n xs) {p : Nums} {u4 u5 u6 v4 v5 v6 : Value} (x : GS w0 W p u4 u5 u6 v4 v5 v6) : GS w0 V p u4 u5 u6 v4 v5 v6 := x.grow h.bel
abbrev mk4 : List Value := [.int .i64 (-3), .int .i64 0]
abbrev mk5 : List Value := [.int .i64 (-4)]
abbrev mk6 : List Value := [.bool false, .int .i64 (-5)]
/-- what given hands out -/
def GivenPost (w : World) (p : Nums) (n na nr : Nat) (L : List K) (A : List Int) (R : List C) (e : Ending) (w' : World) : Prop :=
  ∃ g4 k4 g5 k5 g6 k6, e = .returned (.agg (cP p (.slice (some ⟨g4, 0, none⟩) n k4) (.slice (some ⟨g5, 0, none⟩) na k5) (.slice (some ⟨g6, 0, none⟩) nr k6))) ∧
    SL w' w.heap.size 66 2 g4 n k4 (cks L ++ mk4) ∧ SL w' w.heap.size 2 1 g5 na k5 (A.map iv ++ mk5) ∧ SL w' w.heap.size 64 2 g6 nr k6 (ccs R ++ mk6) ∧ Go.RowKit.Below w.heap.size w w'
end Go.Proofs.Ytbpgafchagpmoaa
/-
  append AT A ROW OF ONE's OWN: IN PLACE, OR ALL THAT LAY LIES AS IT LAY; A ROW AND A SECOND VIEW OF IT THAT GROWS.
-/
namespace Go.Proofs.Ytbpgafchagpmoaa
open Go.RowKit Go.Sort

/-- where an append has gone -/
def Went (w w' : World) (v v' : Value) (n : Nat) : Prop := (v'.ownBlock = v.ownBlock ∧ ∀ g n0 cap, v = .slice (some ⟨g, 0, none⟩) n0 cap → v' = .slice (some ⟨g, 0, none⟩) n cap) ∨ (v'.ownBlock = some w.heap.size ∧ w.grownBy w' none)
theorem run_append_two {w : World} (base : Nat) (t ty e : TypeId) (i0 : TypeInfo) (z : Value) (size bytes : Nat) (ht : Try.prog.underlying t = some (.slice e)) (hi : Try.prog.info? e = some i0) (hz0 : i0.zero = some z) (hz1 : i0.size = size) (hz2 : i0.bytes = bytes) (hzs : z.cells.size = size) (hsz : 0 < size)
    (v : Value) (n : Nat) (xs : List Value) (hown : w.ownsRow base e size v n xs) (ad : Addr) (m c : Nat) (ys : List Value) (hl : ys.length = m * size) (hx : ∀ j u, ys[j]? = some u → w.cell? (ad.add j) = some u) (h1 : ∀ u ∈ ys, u.oneCell' = true) (hm : n + m ≤ maxLen) (hb : (n + m) * bytes ≤ 140737488355328) (hbase : base ≤ w.heap.size) :
    ∃ v' w', (Builtin.append_ #[t, t] ty #[v, .slice (some ad) m c]).run Try.prog w = .ok v' w' ∧ w'.ownsRow base e size v' (n + m) (xs ++ ys) ∧ w.grownBy w' v.ownBlock ∧ Went w w' v v' (n + m) := by
  obtain ⟨v', w', hr, h2, h3, _, h4⟩ := run_append_own_at (P := Try.prog) w base t ty e i0 z size bytes ht hi hz0 hz1 hz2 hzs hsz v n xs hown ad m c ys hl hx h1 hm hb hbase
  refine ⟨v', w', hr, h2, h3, ?_⟩
  obtain ⟨hl', h⟩ := hown
  rcases h with ⟨rfl, h0⟩ | ⟨g, cap, cur, rfl, hb', hg, hn, hcm, hs, ht'⟩
  · rcases h4 with h4 | h4
    · exact .inl ⟨h4, fun g n0 cap e => by cases e⟩
    · exact .inr ⟨h4, h3⟩
  · have hown' : w.ownsRow base e size (.slice (some ⟨g, 0, none⟩) n cap) n xs := ⟨hl', .inr ⟨g, cap, cur, rfl, hb', hg, hn, hcm, hs, ht'⟩⟩
    by_cases hroom : n + m ≤ cap
    · obtain ⟨w2, hr2, _, h6⟩ := run_append_own_spare (P := Try.prog) (w := w) base t ty e i0 size ht hi hz1 g n cap xs hown' ad m c ys hl hx h1 hroom
      rw [hr] at hr2
      cases hr2
      exact .inl ⟨rfl, fun g' n' cap' e => by cases e; rfl⟩
    · have hgr := run_append_grow (P := Try.prog) w t ty e i0 z ht hi hz0 ⟨g, 0, none⟩ n cap xs (by rw [hl', hz1])
        (fun j u hu => by
          rw [addr_add]
          have hj : j < n * size := by rw [← hl']; exact (List.getElem?_eq_some_iff.1 hu).1
          rw [Nat.zero_add, World.ownsRow.cellAt hown' j hj, hu])
        ad m c ys (by rw [hl, hz1]) hx (by omega) (by unfold maxLen at hm; omega) (by rw [hz2]; exact growslice_fits (by omega) hb)
      rw [hr] at hgr
      cases hgr
      exact .inr ⟨rfl, ⟨rfl, rfl, rfl, by simp, fun k hk _ => Below.heap_alloc w.drew _ k hk⟩⟩
theorem wpList_append_two {w : World} {ops : Array Oper} {rest : List Oper} {o : Oper} {a : Act} {Q : Exit → Act → World → Prop} (hgd : o.guard = none) (s x : Operand) (t e : TypeId) (i0 : TypeInfo) (z : Value) (size bytes : Nat) (ht : Try.prog.underlying t = some (.slice e)) (hi : Try.prog.info? e = some i0) (hz0 : i0.zero = some z) (hz1 : i0.size = size) (hz2 : i0.bytes = bytes) (hzs : z.cells.size = size) (hsz : 0 < size)
    (ho : o.op = .call { callee := .builtin .append, args := #[s, x], argTypes := #[t, t] }) (base : Nat) (v : Value) (n : Nat) (xs : List Value) (hs : a.eval s = v) (hown : w.ownsRow base e size v n xs) (ad : Addr) (m c : Nat) (ys : List Value) (hx : a.eval x = .slice (some ad) m c) (hl : ys.length = m * size) (hc : ∀ j u, ys[j]? = some u → w.cell? (ad.add j) = some u) (h1 : ∀ u ∈ ys, u.oneCell' = true) (hm : n + m ≤ maxLen) (hb : (n + m) * bytes ≤ 140737488355328) (hbase : base ≤ w.heap.size)
    (h : ∀ v' w', w'.ownsRow base e size v' (n + m) (xs ++ ys) → w.grownBy w' v.ownBlock → Went w w' v v' (n + m) → wpList Try.prog ops Q rest (a.put o.dst v') w') : wpList Try.prog ops Q (o :: rest) a w := by
  obtain ⟨v', w', hr, h2, h3, h4⟩ := run_append_two base t o.type e i0 z size bytes ht hi hz0 hz1 hz2 hzs hsz v n xs hown ad m c ys hl hc h1 hm hb hbase
  refine wpList_plain hgd fun K hK' => ?_
  unfold Oper.wp
  simp [execOp, ho, resolve, invoke, builtin, hs, hx, hr, Result.andThen]
  exact hK' _ _ (h v' w' h2 h3 h4)
theorem own_prefix {w : World} {base e size g n nx cap : Nat} {xs ys : List Value} (h : w.ownsRow base e size (.slice (some ⟨g, 0, none⟩) nx cap) nx (xs ++ ys)) (hl : xs.length = n * size) (hn : n ≤ nx) : w.ownsRow base e size (.slice (some ⟨g, 0, none⟩) n cap) n xs := by
  obtain ⟨_, ⟨e1, _⟩ | ⟨g', cap', cur, e1, hb, hg, h1, h2, h3, h4⟩⟩ := h
  · cases e1
  · cases e1
    refine ⟨hl, .inr ⟨g, cap, cur, rfl, hb, hg, by omega, h2, h3, ?_⟩⟩
    have h5 := congrArg (List.take (n * size)) h4
    rw [List.take_take, Nat.min_eq_left (Nat.mul_le_mul_right _ hn)] at h5
    rw [h5, ← hl, List.take_left']
    rfl
theorem own_apart {W : World} {base base' e e' size size' n n' : Nat} {v v' : Value} {xs xs' : List Value} (h : W.ownsRow base e size v n xs) (h' : W.ownsRow base' e' size' v' n' xs') (he : e ≠ e') {g : Nat} (hg : v.ownBlock = some g) : v'.ownBlock ≠ some g := by
  intro hg'
  obtain ⟨_, ⟨rfl, _⟩ | ⟨g1, c1, cur1, rfl, _, hh, _⟩⟩ := h
  · cases hg
  · obtain ⟨_, ⟨rfl, _⟩ | ⟨g2, c2, cur2, rfl, _, hh', _⟩⟩ := h'
    · cases hg'
    · cases hg
      cases hg'
      have := hh.symm.trans hh'
      simp only [Option.some.injEq, Obj.cells.injEq] at this
      exact he this.2.1
/-- a row, and a view of it that grows -/
structure AX (N : Nat) (W : World) (e size : Nat) (v : Value) (n : Nat) (xs : List Value) (vx : Value) (nx : Nat) (ys : List Value) : Prop where
  a : W.ownsRow 0 e size v n xs
  x : W.ownsRow 0 e size vx nx (xs ++ ys)
  le : n ≤ nx
  at_ : (vx.ownBlock = v.ownBlock ∧ ∀ g n0 cap, v = .slice (some ⟨g, 0, none⟩) n0 cap → vx = .slice (some ⟨g, 0, none⟩) nx cap) ∨ (∀ g, vx.ownBlock = some g → N ≤ g ∧ v.ownBlock ≠ some g)
section
variable {N : Nat} {W W' : World} {e size n nx m : Nat} {v vx vx' : Value} {xs ys zs : List Value}
theorem AX.start (h : W.ownsRow 0 e size v n xs) : AX N W e size v n xs v n [] := ⟨h, by rw [List.append_nil]; exact h, Nat.le_refl _, .inl ⟨rfl, fun g n0 cap hv => by
  obtain ⟨ao, c, e1, _⟩ := own_slice h
  rw [e1] at hv ⊢
  cases hv; rfl⟩⟩
theorem AX.app (h : AX N W e size v n xs vx nx ys) (hN : N ≤ W.heap.size) (h2 : W'.ownsRow 0 e size vx' (nx + m) ((xs ++ ys) ++ zs)) (h3 : W.grownBy W' vx.ownBlock) (h4 : Went W W' vx vx' (nx + m)) : AX N W' e size v n xs vx' (nx + m) (ys ++ zs) := by
  have hx : W'.ownsRow 0 e size vx' (nx + m) (xs ++ (ys ++ zs)) := by rw [← List.append_assoc]; exact h2
  have hle : n ≤ nx + m := Nat.le_trans h.le (Nat.le_add_right _ _)
  rcases h4 with ⟨f1, f2⟩ | ⟨f1, f2⟩
  · rcases h.at_ with ⟨e1, e2⟩ | hne
    · obtain ⟨ao, c, hv, hnil, _, hsome⟩ := own_slice h.a
      cases ao with
      | none => exact ⟨ownsRow_same h.a (fun g hg => by rw [hv] at hg; cases hg), hx, hle, .inl ⟨f1.trans e1, fun g n0 cap e => by rw [hv] at e; cases e⟩⟩
      | some ad =>
        obtain ⟨had, _⟩ := hsome ad rfl
        rw [had] at hv
        have q1 := e2 _ _ _ hv
        have q2 := f2 _ _ _ q1
        refine ⟨?_, hx, hle, .inl ⟨f1.trans e1, fun g n0 cap e => ?_⟩⟩
        · rw [hv]
          exact own_prefix (by rw [q2] at hx; exact hx) h.a.1 hle
        · rw [hv] at e
          cases e
          exact q2
    · refine ⟨ownsRow_same h.a (fun g hg => h3.block g (World.ownsRow.lt h.a g hg).2 (fun e => (hne g e.symm).2 hg)), hx, hle, .inr (fun g hg => hne g (f1 ▸ hg))⟩
  · refine ⟨ownsRow_same h.a (fun g hg => f2.block g (World.ownsRow.lt h.a g hg).2 (by simp)), hx, hle, .inr (fun g hg => ?_)⟩
    rw [f1] at hg
    cases hg
    exact ⟨hN, fun e => Nat.lt_irrefl _ (World.ownsRow.lt h.a _ e).2⟩
theorem AX.same (h : AX N W e size v n xs vx nx ys) (hv : ∀ g, v.ownBlock = some g → W'.heap[g]? = W.heap[g]?) (hx : ∀ g, vx.ownBlock = some g → W'.heap[g]? = W.heap[g]?) : AX N W' e size v n xs vx nx ys := ⟨ownsRow_same h.a hv, ownsRow_same h.x hx, h.le, h.at_⟩
theorem AX.below (h : AX N W e size v n xs vx nx ys) (hb : Go.RowKit.Below W.heap.size W W') : AX N W' e size v n xs vx nx ys := h.same (fun g hg => hb.block g (World.ownsRow.lt h.a g hg).2) (fun g hg => hb.block g (World.ownsRow.lt h.x g hg).2)
theorem AX.other (h : AX N W e size v n xs vx nx ys) {base' e' size' n' : Nat} {v' : Value} {xs' : List Value} (h' : W.ownsRow base' e' size' v' n' xs') (he : e ≠ e') (hg : W.grownBy W' v'.ownBlock) : AX N W' e size v n xs vx nx ys :=
  h.same (fun g hgg => hg.block g (World.ownsRow.lt h.a g hgg).2 (fun e1 => own_apart h.a h' he hgg e1.symm)) (fun g hgg => hg.block g (World.ownsRow.lt h.x g hgg).2 (fun e1 => own_apart h.x h' he hgg e1.symm))
theorem RE.own {b : Nat} {c0 c1 c2 c3 c4 c5 : Value} (hr : RE W b c0 c1 c2 c3 c4 c5) (h : W.ownsRow 0 e size v n xs) (he : e ≠ 33) (hg : W.grownBy W' v.ownBlock) : RE W' b c0 c1 c2 c3 c4 c5 := (hg.block b hr.lt (fun e1 => own_ne h hr he e1.symm rfl)).trans hr
end
/-- what lies elsewhere stays -/
structure Fz (w W : World) (v1 v2 : Value) : Prop where
  os : W.os = w.os
  tape : W.tape = w.tape
  output : W.output = w.output
  size : w.heap.size ≤ W.heap.size
  block : ∀ b, b < w.heap.size → v1.ownBlock ≠ some b → v2.ownBlock ≠ some b → W.heap[b]? = w.heap[b]?
section
variable {w W W' : World} {v1 v2 vx : Value} {e size n nx N : Nat} {xs ys : List Value}
theorem Fz.below (h : Fz w W v1 v2) (hb : Go.RowKit.Below W.heap.size W W') : Fz w W' v1 v2 := ⟨hb.os.trans h.os, hb.tape.trans h.tape, hb.output.trans h.output, Nat.le_trans h.size hb.size, fun b h1 h2 h3 => (hb.block b (Nat.lt_of_lt_of_le h1 h.size)).trans (h.block b h1 h2 h3)⟩
theorem Fz.by1 (h : Fz w W v1 v2) (hg : W.grownBy W' v1.ownBlock) : Fz w W' v1 v2 := ⟨hg.os.trans h.os, hg.tape.trans h.tape, hg.output.trans h.output, Nat.le_trans h.size hg.size, fun b h1 h2 h3 => (hg.block b (Nat.lt_of_lt_of_le h1 h.size) (fun e => h2 e.symm)).trans (h.block b h1 h2 h3)⟩
theorem Fz.by2 (h : Fz w W v1 v2) (hg : W.grownBy W' v2.ownBlock) : Fz w W' v1 v2 := ⟨hg.os.trans h.os, hg.tape.trans h.tape, hg.output.trans h.output, Nat.le_trans h.size hg.size, fun b h1 h2 h3 => (hg.block b (Nat.lt_of_lt_of_le h1 h.size) (fun e => h3 e.symm)).trans (h.block b h1 h2 h3)⟩
theorem Fz.ax1 (h : Fz w W v1 v2) (x : AX N W e size v1 n xs vx nx ys) (hN : w.heap.size ≤ N) (hg : W.grownBy W' vx.ownBlock) : Fz w W' v1 v2 := ⟨hg.os.trans h.os, hg.tape.trans h.tape, hg.output.trans h.output, Nat.le_trans h.size hg.size, fun b h1 h2 h3 => (hg.block b (Nat.lt_of_lt_of_le h1 h.size) (fun e1 => by
  rcases x.at_ with ⟨q, _⟩ | q
  · exact h2 (q ▸ e1.symm)
  · have := (q b e1.symm).1; omega)).trans (h.block b h1 h2 h3)⟩
theorem Fz.ax2 (h : Fz w W v1 v2) (x : AX N W e size v2 n xs vx nx ys) (hN : w.heap.size ≤ N) (hg : W.grownBy W' vx.ownBlock) : Fz w W' v1 v2 := ⟨hg.os.trans h.os, hg.tape.trans h.tape, hg.output.trans h.output, Nat.le_trans h.size hg.size, fun b h1 h2 h3 => (hg.block b (Nat.lt_of_lt_of_le h1 h.size) (fun e1 => by
  rcases x.at_ with ⟨q, _⟩ | q
  · exact h3 (q ▸ e1.symm)
  · have := (q b e1.symm).1; omega)).trans (h.block b h1 h2 h3)⟩
theorem Fz.bel {w0 : World} {C : Nat} (h : Fz w W v1 v2) (hb : Go.RowKit.Below C w0 w) (h1 : ∀ g, v1.ownBlock = some g → C ≤ g) (h2 : ∀ g, v2.ownBlock = some g → C ≤ g) (hC : C ≤ w.heap.size) : Go.RowKit.Below C w0 W :=
  ⟨h.os.trans hb.os, h.tape.trans hb.tape, h.output.trans hb.output, Nat.le_trans hb.size h.size, fun b hlt => (h.block b (Nat.lt_of_lt_of_le hlt hC) (fun e => by have := h1 b e; omega) (fun e => by have := h2 b e; omega)).trans (hb.block b hlt)⟩
/-- an address outside two rows -/
def Off (v1 v2 : Value) (ao : Option Addr) : Prop := ∀ ad, ao = some ad → v1.ownBlock ≠ some ad.block ∧ v2.ownBlock ≠ some ad.block
theorem CellsAt.off {ao : Option Addr} {zs : List Value} (h : CellsAt w ao zs) (hf : Fz w W v1 v2) (ho : Off v1 v2 ao) : CellsAt W ao zs := by
  rcases h with h | ⟨b, off, rfl, hc⟩
  · exact .inl h
  · refine .inr ⟨b, off, rfl, fun j u hu => ?_⟩
    have h1 := hc j u hu
    obtain ⟨q1, q2⟩ := ho _ rfl
    have h2 := hf.block b (cell_lt h1) q1 q2
    simp only [World.cell?] at h1 ⊢
    rw [h2]; exact h1
end
end Go.Proofs.Ytbpgafchagpmoaa
/-
  THE WALK OF kept.
-/
namespace Go.Proofs.Ytbpgafchagpmoaa
open Go.RowKit Go.Sort

theorem run_neI (x1 x2 : Int) (w : World) : Sem.run Try.prog (binOp .neq 66 (.agg #[.int .i64 x1, .int .i64 x2]) (.agg #[.int .i64 x1, .int .i64 x2])) w = .ok (.bool false) w := by
  have u3 := Try.underlying3
  have a3 := Try.isAgg3
  have z3 := Try.sizeOf3
  have u2 := Try.underlying2
  have a2 := Try.isAgg2
  have z2 := Try.sizeOf2
  have hS : Try.prog.underlying 66 = some (.struct (Try.prog.fieldsOf 66)) := by kernel_rfl
  have hp : Try.prog.stoodInHeld 66 = false := by kernel_rfl
  rw [run_neq_struct, show (10000 : Nat) = 9999 + 1 from rfl, run_equalIn_agg w 9999 66 _ _ hS hp]
  simp only [Program.fieldsOf, Try.underlying66]
  go_simp
theorem instrGuard (op : BinOp) (a b : Operand) (x1 x2 y1 y2 : Int) (w : World) : Sem.run Try.prog (eqGuard op 66 a b (.agg #[.int .i64 x1, .int .i64 x2]) (.agg #[.int .i64 y1, .int .i64 y2])) w = .ok () w :=
  run_eqGuard_agg w op 66 a b _ _ (by kernel_rfl)
theorem run_neC (x1 : Bool) (x2 : Int) (w : World) : Sem.run Try.prog (binOp .neq 64 (.agg #[.bool x1, .int .i64 x2]) (.agg #[.bool x1, .int .i64 x2])) w = .ok (.bool false) w := by
  have u3 := Try.underlying4
  have a3 := Try.isAgg4
  have z3 := Try.sizeOf4
  have u2 := Try.underlying2
  have a2 := Try.isAgg2
  have z2 := Try.sizeOf2
  have hS : Try.prog.underlying 64 = some (.struct (Try.prog.fieldsOf 64)) := by kernel_rfl
  have hp : Try.prog.stoodInHeld 64 = false := by kernel_rfl
  rw [run_neq_struct, show (10000 : Nat) = 9999 + 1 from rfl, run_equalIn_agg w 9999 64 _ _ hS hp]
  simp only [Program.fieldsOf, Try.underlying64]
  go_simp
theorem cellGuard (op : BinOp) (a b : Operand) (x1 y1 : Bool) (x2 y2 : Int) (w : World) : Sem.run Try.prog (eqGuard op 64 a b (.agg #[.bool x1, .int .i64 x2]) (.agg #[.bool y1, .int .i64 y2])) w = .ok () w :=
  run_eqGuard_agg w op 64 a b _ _ (by kernel_rfl)
theorem sameWords_big (w : World) (a1 a2 : Option Addr) (n c1 c2 : Nat) (S : List Int) (h1 : CellsAt w a1 (S.map iv)) (h2 : CellsAt w a2 (S.map iv)) (hn : n = S.length) (hm : n ≤ 140737488355328) :
    Calls Try.prog 29 #[.slice a1 n c1, .slice a2 n c2] w fun e w' => e = .returned (.bool true) ∧ Grew w w' := by
  have H1 : Hid (CellsAt w a1 (S.map iv)) := h1
  have H2 : Hid (CellsAt w a2 (S.map iv)) := h2
  have HN : Hid (n = S.length) := hn
  clear h1 h2 hn
  go_enter Try.func29, Try.ntmps29
  go_wp2_with fail
  go_loopw [5] (fun x wr => ∃ k : Nat, k ≤ n ∧ x = .int .i64 (k : Int) ∧ Hid (Grew w wr)) (fun x _ => n - (intOf x).toNat)
  case atStart => exact ⟨0, by omega, rfl, Grew.refl _⟩
  case round =>
    obtain ⟨k, hk, rfl, HG⟩ := hrel
    by_cases hlt : k < n
    · obtain ⟨b1, o1, rfl, c11⟩ := (H1.out.grew HG.out).get k (by have := HN.out; omega)
      obtain ⟨b2, o2, rfl, c21⟩ := (H2.out.grew HG.out).get k (by have := HN.out; omega)
      generalize S.getD k 0 = z at *
      go_wp2_with fail
      go_quiet (fail)
      go_wp2
      go_roundw
      case rel => exact ⟨k + 1, by omega, by go_num, HG.out.drewN nq⟩
      case measure => simp [intOf]; omega
    · obtain rfl : k = n := by omega
      go_wp2
      go_ret
      exact ⟨rfl, HG.out⟩
theorem sl_cells {W : World} {base e size g n k : Nat} {xs : List Value} (h : SL W base e size g n k xs) : ∀ j u, xs[j]? = some u → W.cell? ⟨g, j, none⟩ = some u := fun j u hu => by
  have hj : j < (n + 1) * size := by have := h.2.1; have := (List.getElem?_eq_some_iff.1 hu).1; omega
  rw [World.ownsRow.cellAt h.2 j hj, hu]
theorem at_left {xs ys : List Value} {j : Nat} {u : Value} (h : xs[j]? = some u) : (xs ++ ys)[j]? = some u := by
  rw [List.getElem?_append_left (List.getElem?_eq_some_iff.1 h).1]; exact h
/-- two calls that are alike, and the marks -/
structure KI (w : World) (n na nr : Nat) (L : List K) (A : List Int) (R : List C) (ao aa ra : Option Addr) (g4 g5 g6 : Nat) : Prop where
  l4 : L.length = n
  l5 : A.length = na
  l6 : R.length = nr
  c4 : CellsAt w ao (cks L)
  c5 : CellsAt w aa (A.map iv)
  c6 : CellsAt w ra (ccs R)
  d4 : ∀ j u, (cks L ++ mk4)[j]? = some u → w.cell? ⟨g4, j, none⟩ = some u
  d5 : ∀ j u, (A.map iv ++ mk5)[j]? = some u → w.cell? ⟨g5, j, none⟩ = some u
  d6 : ∀ j u, (ccs R ++ mk6)[j]? = some u → w.cell? ⟨g6, j, none⟩ = some u
theorem cells_same {w W : World} {g : Nat} {xs : List Value} (h : ∀ j u, xs[j]? = some u → w.cell? ⟨g, j, none⟩ = some u) (hb : ∀ b, b < w.heap.size → W.heap[b]? = w.heap[b]?) : ∀ j u, xs[j]? = some u → W.cell? ⟨g, j, none⟩ = some u := fun j u hu => by
  have h1 := h j u hu
  have h2 := hb g (cell_lt h1)
  simp only [World.cell?] at h1 ⊢
  rw [h2]; exact h1
theorem KI.below {w W : World} {n na nr : Nat} {L : List K} {A : List Int} {R : List C} {ao aa ra : Option Addr} {g4 g5 g6 : Nat} (x : KI w n na nr L A R ao aa ra g4 g5 g6) (hb : Go.RowKit.Below w.heap.size w W) : KI W n na nr L A R ao aa ra g4 g5 g6 :=
  ⟨x.l4, x.l5, x.l6, x.c4.below hb, x.c5.below hb, x.c6.below hb, cells_same x.d4 hb.block, cells_same x.d5 hb.block, cells_same x.d6 hb.block⟩
theorem KI.at4 {w : World} {n na nr : Nat} {L : List K} {A : List Int} {R : List C} {ao aa ra : Option Addr} {g4 g5 g6 : Nat} (x : KI w n na nr L A R ao aa ra g4 g5 g6) (k : Nat) (hk : k < n) : ∃ b off, ao = some ⟨b, off, none⟩ ∧ w.cell? ⟨b, off + k * 2, none⟩ = some (.int .i64 (kd L k).1) ∧ w.cell? ⟨b, off + k * 2 + 1, none⟩ = some (.int .i64 (kd L k).2) ∧ w.cell? ⟨g4, k * 2, none⟩ = some (.int .i64 (kd L k).1) ∧ w.cell? ⟨g4, k * 2 + 1, none⟩ = some (.int .i64 (kd L k).2) := by
  obtain ⟨e1, e2⟩ := cks_at L k (x.l4 ▸ hk)
  obtain ⟨b, off, q1, q2, q3⟩ := x.c4.put k (x.l4 ▸ hk)
  exact ⟨b, off, q1, q2, q3, x.d4 _ _ (at_left e1), x.d4 _ _ (at_left e2)⟩
theorem KI.at6 {w : World} {n na nr : Nat} {L : List K} {A : List Int} {R : List C} {ao aa ra : Option Addr} {g4 g5 g6 : Nat} (x : KI w n na nr L A R ao aa ra g4 g5 g6) (k : Nat) (hk : k < nr) : ∃ b off, ra = some ⟨b, off, none⟩ ∧ w.cell? ⟨b, off + k * 2, none⟩ = some (.bool (rd R k).1) ∧ w.cell? ⟨b, off + k * 2 + 1, none⟩ = some (.int .i64 (rd R k).2) ∧ w.cell? ⟨g6, k * 2, none⟩ = some (.bool (rd R k).1) ∧ w.cell? ⟨g6, k * 2 + 1, none⟩ = some (.int .i64 (rd R k).2) := by
  obtain ⟨e1, e2⟩ := ccs_at R k (x.l6 ▸ hk)
  have hl := x.l6
  rcases x.c6 with h | ⟨b, off, rfl, hc⟩
  · have := congrArg List.length h; rw [ccs_length] at this; simp only [List.length_nil] at this; omega
  · exact ⟨b, off, rfl, hc _ _ e1, by rw [Nat.add_assoc]; exact hc _ _ e2, x.d6 _ _ (at_left e1), x.d6 _ _ (at_left e2)⟩
theorem KI.marks {w : World} {n na nr : Nat} {L : List K} {A : List Int} {R : List C} {ao aa ra : Option Addr} {g4 g5 g6 : Nat} (x : KI w n na nr L A R ao aa ra g4 g5 g6) : w.cell? ⟨g4, n * 2, none⟩ = some (.int .i64 (-3)) ∧ w.cell? ⟨g5, na, none⟩ = some (.int .i64 (-4)) ∧ w.cell? ⟨g6, nr * 2 + 1, none⟩ = some (.int .i64 (-5)) := by
  have q4 : (cks L).length = n * 2 := by rw [cks_length, x.l4]
  have q5 : (A.map iv).length = na := by rw [List.length_map, x.l5]
  have q6 : (ccs R).length = nr * 2 := by rw [ccs_length, x.l6]
  refine ⟨x.d4 _ _ ?_, x.d5 _ _ ?_, x.d6 _ _ ?_⟩
  · rw [List.getElem?_append_right (by omega), q4, Nat.sub_self]; rfl
  · rw [List.getElem?_append_right (by omega), q5, Nat.sub_self]; rfl
  · rw [List.getElem?_append_right (by omega), q6, Nat.add_sub_cancel_left]; rfl
set_option maxRecDepth 100000 in
set_option maxHeartbeats 4000000 in
theorem kept_any (w : World) (p : Nums) (n na nr : Nat) (L : List K) (A : List Int) (R : List C) (ao aa ra : Option Addr) (g4 g5 g6 k4 k5 k6 cap ca cr : Nat) (hk : KI w n na nr L A R ao aa ra g4 g5 g6) (m4 : n + 1 ≤ k4) (m5 : na + 1 ≤ k5) (m6 : nr + 1 ≤ k6) (l1 : n ≤ 140737488355328) (l2 : na ≤ 140737488355328) (l3 : nr ≤ 140737488355328) :
    Calls Try.prog 13 #[.agg (cP p (.slice (some ⟨g4, 0, none⟩) n k4) (.slice (some ⟨g5, 0, none⟩) na k5) (.slice (some ⟨g6, 0, none⟩) nr k6)), .agg (cP p (.slice ao n cap) (.slice aa na ca) (.slice ra nr cr))] w fun e w' => e = .returned (.bool true) ∧ Go.RowKit.Below w.heap.size w w' := by
  have HB0 : Hid (Go.RowKit.Below w.heap.size w ((w.alloc (cQ p (.slice (some ⟨g4, 0, none⟩) n k4) (.slice (some ⟨g5, 0, none⟩) na k5) (.slice (some ⟨g6, 0, none⟩) nr k6))).alloc (cQ p (.slice ao n cap) (.slice aa na ca) (.slice ra nr cr)))) := ((Below.refl _ _).alloc (Nat.le_refl _) _).alloc (by simp) _
  have HR1 : Hid (CB ((w.alloc (cQ p (.slice (some ⟨g4, 0, none⟩) n k4) (.slice (some ⟨g5, 0, none⟩) na k5) (.slice (some ⟨g6, 0, none⟩) nr k6))).alloc (cQ p (.slice ao n cap) (.slice aa na ca) (.slice ra nr cr))) w.heap.size p (.slice (some ⟨g4, 0, none⟩) n k4) (.slice (some ⟨g5, 0, none⟩) na k5) (.slice (some ⟨g6, 0, none⟩) nr k6)) := (heap_alloc_old _ _ (by simp)).trans (heap_alloc_new _ _ rfl)
  have HR2 : Hid (CB ((w.alloc (cQ p (.slice (some ⟨g4, 0, none⟩) n k4) (.slice (some ⟨g5, 0, none⟩) na k5) (.slice (some ⟨g6, 0, none⟩) nr k6))).alloc (cQ p (.slice ao n cap) (.slice aa na ca) (.slice ra nr cr))) (w.heap.size + 1) p (.slice ao n cap) (.slice aa na ca) (.slice ra nr cr)) := heap_alloc_new _ _ (by simp)
  have HW := sameWords_big ((w.alloc (cQ p (.slice (some ⟨g4, 0, none⟩) n k4) (.slice (some ⟨g5, 0, none⟩) na k5) (.slice (some ⟨g6, 0, none⟩) nr k6))).alloc (cQ p (.slice ao n cap) (.slice aa na ca) (.slice ra nr cr))) (some ⟨g5, 0, none⟩) aa na k5 ca A (.inr ⟨g5, 0, rfl, fun j u hu => by rw [Nat.zero_add]; exact (hk.below HB0.out).d5 j u (at_left hu)⟩) (hk.below HB0.out).c5 hk.l5.symm l2
  have HK : Hid (KI w n na nr L A R ao aa ra g4 g5 g6) := hk
  clear hk
  go_enter Try.func13, Try.ntmps13
  go_wp2_with fail
  refine HW.mono ?_
  rintro e w1 ⟨rfl, hg⟩
  have HB1 : Hid (Go.RowKit.Below w.heap.size w w1) := HB0.out.trans (hg.below.mono HB0.out.size)
  have HX1 : Hid (CB w1 w.heap.size p (.slice (some ⟨g4, 0, none⟩) n k4) (.slice (some ⟨g5, 0, none⟩) na k5) (.slice (some ⟨g6, 0, none⟩) nr k6)) := HR1.out.below hg.below HR1.out.lt
  have HX2 : Hid (CB w1 (w.heap.size + 1) p (.slice ao n cap) (.slice aa na ca) (.slice ra nr cr)) := HR2.out.below hg.below HR2.out.lt
  have HK1 : Hid (KI w1 n na nr L A R ao aa ra g4 g5 g6) := HK.out.below HB1.out
  clear hg HW HR1 HR2 HB0 HK
  obtain ⟨_, _, _, _, x4, x5, x6⟩ := HX1.out.cells
  obtain ⟨_, _, _, _, y4, y5, y6⟩ := HX2.out.cells
  go_wp2_with fail
  go_loopw [5] (fun x wr => ∃ k : Nat, k ≤ n ∧ x = .int .i64 (k : Int) ∧ Hid (Grew w1 wr)) (fun x _ => n - (intOf x).toNat)
  case atStart => exact ⟨0, by omega, rfl, Grew.refl _⟩
  case round =>
    clear x4 x5 x6 y4 y5 y6
    obtain ⟨k, hk, rfl, HG⟩ := hrel
    obtain ⟨_, _, _, _, x4, x5, x6⟩ := (HX1.out.below HG.out.below HX1.out.lt).cells
    obtain ⟨_, _, _, _, y4, y5, y6⟩ := (HX2.out.below HG.out.below HX2.out.lt).cells
    by_cases hlt : k < n
    · obtain ⟨b1, o1, rfl, c1, c2, c3, c4⟩ := (HK1.out.below HG.out.below).at4 k hlt
      generalize (kd L k).1 = t at *
      generalize (kd L k).2 = r at *
      have hq := run_neI t r
      have hgd := fun op x y => instrGuard op x y t r t r
      go_wp2_with fail
      go_quiet (fail)
      go_wp2
      go_roundw
      case rel => exact ⟨k + 1, by omega, by go_num, HG.out.drewN nq⟩
      case measure => simp [intOf]; omega
    · obtain rfl : n = k := by omega
      go_wp2_with fail
      have HG1 : Hid (Grew w1 wr) := HG.out
      go_loopw [6] (fun x wr => ∃ k : Nat, k ≤ nr ∧ x = .int .i64 (k : Int) ∧ Hid (Grew w1 wr)) (fun x _ => nr - (intOf x).toNat)
      case atStart => exact ⟨0, by omega, rfl, HG1⟩
      case round =>
        clear x4 x5 x6 y4 y5 y6 HG HG1
        obtain ⟨k, hk, rfl, HG⟩ := hrel
        obtain ⟨_, _, _, _, x4, x5, x6⟩ := (HX1.out.below HG.out.below HX1.out.lt).cells
        obtain ⟨_, _, _, _, y4, y5, y6⟩ := (HX2.out.below HG.out.below HX2.out.lt).cells
        by_cases hlt : k < nr
        · obtain ⟨b1, o1, rfl, c1, c2, c3, c4⟩ := (HK1.out.below HG.out.below).at6 k hlt
          generalize (rd R k).1 = t at *
          generalize (rd R k).2 = r at *
          have hq := run_neC t r
          have hgd := fun op x y => cellGuard op x y t t r r
          go_wp2_with fail
          go_quiet (fail)
          go_wp2
          go_roundw
          case rel => exact ⟨k + 1, by omega, by go_num, HG.out.drewN nq⟩
          case measure => simp [intOf]; omega
        · obtain rfl : nr = k := by omega
          obtain ⟨c1, c2, c3⟩ := (HK1.out.below HG.out.below).marks
          go_wp2
          go_ret
          exact ⟨rfl, HB1.out.trans (HG.out.below.mono HB1.out.size)⟩
end Go.Proofs.Ytbpgafchagpmoaa
