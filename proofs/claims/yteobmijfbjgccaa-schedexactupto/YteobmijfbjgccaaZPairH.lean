/-
  A pair: what it holds.
-/
import Derived.Test.YteobmijfbjgccaaZMadeH
namespace Go.Proofs.Yteobmijfbjgccaa
open Go.RowKit Go.Sort

/-- a pair's cells, the program's line, the document's chores -/
structure PQ (N : Nat) (w : World) (pb n : Nat) (cb : Nat → Nat) (B : Nat → List Int) (X : Nat → Prop) (lb : Nat) (ao : Option Addr) (nt tc : Nat) (ts : Nat → Int) (lo : Option Addr) (lc : Nat) (rb : Nat) (ra : Option Addr) (rk : Nat) (ba : Nat → Option Addr) (bc : Nat → Nat) (v3 v4 v5 : Value) (l1 : Nat → Nat) (k1 : Nat) (l2 : Nat → Nat) : Prop where
  pc : w.heap[pb]? = some (.cells #[.slice lo n lc, ptZ lb, ptZ rb, v3, v4, v5] 55 (0, 0))
  sl : SL w n cb l1 B X lb ao nt tc ts k1
  ow : OwZ N 44 w lo n lc ((List.range n).map (fun (j : Nat) => ptZ (cb j)))
  nx : ∀ g, lo = some g → ¬ X g.block
  rd : RD w N rb ra rk n l2 B ba bc
  pn : N ≤ pb
  xn : ∀ j, X j ∨ j = lb → N ≤ j
section
variable {N : Nat} {w w' : World} {pb n : Nat} {cb : Nat → Nat} {B : Nat → List Int} {X : Nat → Prop} {lb : Nat} {ao : Option Addr} {nt tc : Nat} {ts : Nat → Int} {lo : Option Addr} {lc : Nat} {rb : Nat} {ra : Option Addr} {rk : Nat} {ba : Nat → Option Addr} {bc : Nat → Nat} {v3 v4 v5 : Value} {l1 : Nat → Nat} {k1 : Nat} {l2 : Nat → Nat}
/-- blocks of a kind that is not its own may turn, and of Tasks all but its own row -/
def pqT (T : TypeId) : Prop := T = 55 ∨ T = 77 ∨ T = 44 ∨ T = 73 ∨ docT T
theorem PQ.keptT (h : PQ N w pb n cb B X lb ao nt tc ts lo lc rb ra rk ba bc v3 v4 v5 l1 k1 l2) (hf : TyF pqT w w') (ha : ∀ g, ao = some g → w'.heap[g.block]? = w.heap[g.block]?) : PQ N w' pb n cb B X lb ao nt tc ts lo lc rb ra rk ba bc v3 v4 v5 l1 k1 l2 := by
  refine ⟨(hf _ _ _ h.pc (.inl rfl)).trans h.pc, ⟨h.sl.ci.same (fun k hk => ?_), h.sl.ln.same (hf _ _ _ h.sl.ln.ln (.inr (.inr (.inr (.inl rfl))))) ha, h.sl.tz, h.sl.pot, h.sl.nb⟩, h.ow.kept (fun g hg => ?_), h.nx, h.rd.keptT (fun k C T hk hT => hf k C T hk (.inr (.inr (.inr (.inr hT))))), h.pn, h.xn⟩
  · obtain ⟨C, T, h1, h2⟩ := h.sl.ci.xt k hk
    exact hf _ _ _ h1 (by rcases h2 with h2 | h2; exact .inr (.inl h2); exact .inr (.inr (.inl h2)))
  · obtain ⟨C, hC⟩ := h.ow.ty g hg
    exact hf _ _ _ hC (.inr (.inr (.inl rfl)))
theorem PQ.kept (h : PQ N w pb n cb B X lb ao nt tc ts lo lc rb ra rk ba bc v3 v4 v5 l1 k1 l2) (hb : RowKit.Below w.heap.size w w') : PQ N w' pb n cb B X lb ao nt tc ts lo lc rb ra rk ba bc v3 v4 v5 l1 k1 l2 := h.keptT (TyF.ofBelow hb) (fun g hg => by
  obtain ⟨C, hC⟩ := h.sl.ln.rt g hg
  exact hb.block _ (blk_ltZ hC))
/-- the program's line goes on -/
theorem PQ.goC (h : PQ N w pb n cb B X lb ao nt tc ts lo lc rb ra rk ba bc v3 v4 v5 l1 k1 l2) {l1' : Nat → Nat} {k1' : Nat} (hs : SL w' n cb l1' B X lb ao nt tc ts k1') (hf : FrZ (fun j => X j ∨ j = lb) w w') : PQ N w' pb n cb B X lb ao nt tc ts lo lc rb ra rk ba bc v3 v4 v5 l1' k1' l2 ∧ TyF (fun T => T ≠ 77 ∧ T ≠ 44 ∧ T ≠ 73) w w' := by
  have hS : ∀ (k : Nat) (C : Array Value) (T : TypeId), w.heap[k]? = some (Obj.cells C T (0, 0)) → (T ≠ 77 ∧ T ≠ 44 ∧ T ≠ 73) → ¬ (X k ∨ k = lb) := fun k C T hk hT hx => by
    rcases hx with hx | hx
    · obtain ⟨C', T', h1, h2⟩ := h.sl.ci.xt k hx
      rw [hk] at h1; cases h1
      rcases h2 with h2 | h2
      · exact hT.1 h2
      · exact hT.2.1 h2
    · rw [hx, h.sl.ln.ln] at hk; cases hk
      exact hT.2.2 rfl
  have hT := TyF.ofFr hf hS
  refine ⟨⟨(hT _ _ _ h.pc ⟨by decide, by decide, by decide⟩).trans h.pc, hs, h.ow.kept (fun g hg => ?_), h.nx, h.rd.keptT (fun k C T hk hd => hT k C T hk (by rcases hd with rfl | rfl | rfl | rfl <;> decide)), h.pn, h.xn⟩, hT⟩
  refine hf.block _ (h.ow.lt g hg).2 (fun hx => ?_)
  rcases hx with hx | hx
  · exact h.nx g hg hx
  · obtain ⟨C, hC⟩ := h.ow.ty g hg
    rw [hx, h.sl.ln.ln] at hC; cases hC
/-- a cell of the pair -/
theorem PQ.cell (h : PQ N w pb n cb B X lb ao nt tc ts lo lc rb ra rk ba bc v3 v4 v5 l1 k1 l2) : w.cell? ⟨pb, 0, none⟩ = some (.slice lo n lc) ∧ w.cell? ⟨pb, 1, none⟩ = some (ptZ lb) ∧ w.cell? ⟨pb, 2, none⟩ = some (ptZ rb) ∧ w.cell? ⟨pb, 3, none⟩ = some v3 ∧ w.cell? ⟨pb, 4, none⟩ = some v4 ∧ w.cell? ⟨pb, 5, none⟩ = some v5 ∧ ∀ o, w.frozen? ⟨pb, o, none⟩ = false :=
  ⟨by simp [World.cell?, h.pc], by simp [World.cell?, h.pc], by simp [World.cell?, h.pc], by simp [World.cell?, h.pc], by simp [World.cell?, h.pc], by simp [World.cell?, h.pc], fun o => frozen_of_row w _ _ _ _ h.pc⟩
/-- a store into the pair -/
theorem PQ.put (h : PQ N w pb n cb B X lb ao nt tc ts lo lc rb ra rk ba bc v3 v4 v5 l1 k1 l2) (o : Nat) (v u3 u4 u5 : Value) (hu : #[.slice lo n lc, ptZ lb, ptZ rb, u3, u4, u5] = #[.slice lo n lc, ptZ lb, ptZ rb, v3, v4, v5].setIfInBounds o v) : PQ N (w.setCell ⟨pb, o, none⟩ v) pb n cb B X lb ao nt tc ts lo lc rb ra rk ba bc u3 u4 u5 l1 k1 l2 := by
  have hf : FrZ (fun j => j = pb) w (w.setCell ⟨pb, o, none⟩ v) := (FrZ.refl (fun j => j = pb) w).set ⟨pb, o, none⟩ v (.inr rfl)
  have hne : ∀ (k : Nat) (C : Array Value) (T : TypeId), w.heap[k]? = some (Obj.cells C T (0, 0)) → T ≠ 55 → (w.setCell ⟨pb, o, none⟩ v).heap[k]? = w.heap[k]? := fun k C T hk hT => hf.block k (blk_ltZ hk) (fun e => by rw [e, h.pc] at hk; cases hk; exact hT rfl)
  refine ⟨by rw [heap_setCell_same w pb o _ _ v h.pc, hu], ⟨h.sl.ci.same (fun k hk => ?_), h.sl.ln.same (hne _ _ _ h.sl.ln.ln (by decide)) (fun g hg => ?_), h.sl.tz, h.sl.pot, h.sl.nb⟩, h.ow.kept (fun g hg => ?_), h.nx, h.rd.keptT (fun k C T hk hT => hne k C T hk (by rcases hT with rfl | rfl | rfl | rfl <;> decide)), h.pn, h.xn⟩
  · obtain ⟨C, T, h1, h2⟩ := h.sl.ci.xt k hk
    exact hne _ _ _ h1 (by rcases h2 with rfl | rfl <;> decide)
  · obtain ⟨C, hC⟩ := h.sl.ln.rt g hg
    exact hne _ _ _ hC (by decide)
  · obtain ⟨C, hC⟩ := h.ow.ty g hg
    exact hne _ _ _ hC (by decide)
end
/-- the two rows of the line -/
structure TN (W wq : World) (cb : Nat → Nat) (zs : List Int) (a b : Nat) (bo : Option Addr) (bk : Nat) (no : Option Addr) (nk : Nat) : Prop where
  p : OwZ W.heap.size 61 wq bo a bk ((zs.take a).map (tvZ cb))
  q : OwZ W.heap.size 3 wq no b nk (i64s (zs.take b))
  bl : RowKit.Below W.heap.size W wq
theorem TN.appP {W wq : World} {cb : Nat → Nat} {zs : List Int} {a b : Nat} {bo : Option Addr} {bk : Nat} {no : Option Addr} {nk : Nat} (h : TN W wq cb zs a b bo bk no nk) (x : Int) (hx : zs.take (a + 1) = zs.take a ++ [x]) (ha : a ≤ 10000000) (y : Value) (hy : y = tvZ cb x) (ty : TypeId) :
    ∃ v' w', (Builtin.append_ #[58, 58] ty #[.slice bo a bk, .slice (some ⟨wq.heap.size, 0, none⟩) 1 1]).run Try.prog (wq.alloc (.cells #[y] 61)) = .ok v' w' ∧ ∃ bo' bk', v' = .slice bo' (a + 1) bk' ∧ Hid (TN W w' cb zs (a + 1) b bo' bk' no nk) := by
  obtain ⟨v', w', hr, bo', bk', rfl, ho, hf, _⟩ := appZ (TS := 58) (TE := 61) Try.underlying58 infoZT rfl h.p h.bl.size y (by rw [hy]; unfold tvZ; split <;> rfl) (by unfold maxLen; omega) (by omega) ty
  refine ⟨_, w', hr, bo', bk', rfl, ⟨?_, h.q.kept (fun g hg => hf.block _ (h.q.lt g hg).2 (fun hS => ?_)), h.bl.trans (hf.below h.bl.size (fun k hk => by obtain ⟨g, hg, rfl⟩ := hk; exact (h.p.lt g hg).1))⟩⟩
  · rw [hx, List.map_append, List.map_cons, List.map_nil, ← hy]; exact ho
  · obtain ⟨g', hg', e⟩ := hS
    obtain ⟨C, hC⟩ := h.p.ty g' hg'
    obtain ⟨C', hC'⟩ := h.q.ty g hg
    rw [e, hC'] at hC; cases hC
theorem TN.appQ {W wq : World} {cb : Nat → Nat} {zs : List Int} {a b : Nat} {bo : Option Addr} {bk : Nat} {no : Option Addr} {nk : Nat} (h : TN W wq cb zs a b bo bk no nk) (x : Int) (hx : zs.take (b + 1) = zs.take b ++ [x]) (hb : b ≤ 10000000) (ty : TypeId) :
    ∃ v' w', (Builtin.append_ #[23, 23] ty #[.slice no b nk, .slice (some ⟨wq.heap.size, 0, none⟩) 1 1]).run Try.prog (wq.alloc (.cells #[.int .i64 x] 3)) = .ok v' w' ∧ ∃ no' nk', v' = .slice no' (b + 1) nk' ∧ Hid (TN W w' cb zs a (b + 1) bo bk no' nk') := by
  obtain ⟨v', w', hr, bo', bk', rfl, ho, hf, _⟩ := appZ (TS := 23) (TE := 3) Try.underlying23 infoZI rfl h.q h.bl.size (.int .i64 x) rfl (by unfold maxLen; omega) (by omega) ty
  refine ⟨_, w', hr, bo', bk', rfl, ⟨h.p.kept (fun g hg => hf.block _ (h.p.lt g hg).2 (fun hS => ?_)), ?_, h.bl.trans (hf.below h.bl.size (fun k hk => by obtain ⟨g, hg, rfl⟩ := hk; exact (h.q.lt g hg).1))⟩⟩
  · obtain ⟨g', hg', e⟩ := hS
    obtain ⟨C, hC⟩ := h.q.ty g' hg'
    obtain ⟨C', hC'⟩ := h.p.ty g hg
    rw [e, hC'] at hC; cases hC
  · rw [hx, i64s, List.map_append]; exact ho
theorem TN.drew {W wq : World} {cb : Nat → Nat} {zs : List Int} {a b : Nat} {bo : Option Addr} {bk : Nat} {no : Option Addr} {nk : Nat} (h : TN W wq cb zs a b bo bk no nk) : TN W wq.drew cb zs a b bo bk no nk := ⟨h.p.kept (fun _ _ => rfl), h.q.kept (fun _ _ => rfl), ⟨h.bl.os, h.bl.tape, h.bl.output, h.bl.size, h.bl.block⟩⟩
/-- the tasks' numbers -/
def tkM (n : Nat) (Ts : List Int) : List Int := Ts.map (fun z => wbZ z n)
def tsT (n : Nat) (Ts : List Int) (i : Nat) : Int := (tkM n Ts).getD i 0
theorem tsT_all (n : Nat) (Ts : List Int) : (List.range Ts.length).map (tsT n Ts) = tkM n Ts := by
  apply List.ext_getElem
  · simp [tkM]
  · intro i h1 h2
    simp [tsT, List.getD, h2]
theorem tsT_lt (n : Nat) (Ts : List Int) (i : Nat) (hi : i < Ts.length) : tsT n Ts i < (n : Int) := by
  have : i < (tkM n Ts).length := by simpa [tkM] using hi
  simp only [tsT, List.getD, List.getElem?_eq_getElem this, Option.getD_some]
  simp only [tkM, List.getElem_map]
  exact (wbZ_lt _ _).1
theorem OwZ.monoN {N N' TE : Nat} {w : World} {ao : Option Addr} {n c : Nat} {ys : List Value} (h : OwZ N TE w ao n c ys) (hN : N' ≤ N) : OwZ N' TE w ao n c ys := by
  obtain ⟨hl, h⟩ := h
  refine ⟨hl, ?_⟩
  rcases h with h | ⟨g, cap, cur, e, hb, r⟩
  · exact .inl h
  · exact .inr ⟨g, cap, cur, e, Nat.le_trans hN hb, r⟩
/-- THE LISTS THAT WERE HANDED OUT, and what they must be -/
def LSZ (N : Nat) (w : World) (t : Nat) (vs1 vs2 : List Value) : Prop := ∃ (P : Nat → List Nat) (ro ro2 : Nat → Option Addr) (rc rc2 : Nat → Nat), vs1 = (List.range t).map (fun i => .slice (ro i) (P i).length (rc i)) ∧ vs2 = (List.range t).map (fun i => .slice (ro2 i) (P i).length (rc2 i)) ∧ (∀ i, i < t → OwZ N 3 w (ro i) (P i).length (rc i) (iNs (P i)) ∧ OwZ N 3 w (ro2 i) (P i).length (rc2 i) (iNs (P i)) ∧ (P i).length ≤ 10000000) ∧ (∀ i j, i < j → j < t → ∀ g g', ro i = some g → ro j = some g' → g.block ≠ g'.block)
theorem LSZ.nil (N : Nat) (w : World) : LSZ N w 0 [] [] := ⟨fun _ => [], fun _ => none, fun _ => none, fun _ => 0, fun _ => 0, rfl, rfl, fun i hi => by omega, fun i j _ hj => by omega⟩
theorem LSZ.keptT {N : Nat} {w w' : World} {t : Nat} {vs1 vs2 : List Value} (h : LSZ N w t vs1 vs2) (hf : TyF (fun T => T = 3) w w') : LSZ N w' t vs1 vs2 := by
  obtain ⟨P, ro, ro2, rc, rc2, h1, h2, h3, h4⟩ := h
  refine ⟨P, ro, ro2, rc, rc2, h1, h2, fun i hi => ?_, h4⟩
  obtain ⟨a1, a2, a3⟩ := h3 i hi
  exact ⟨a1.kept (fun g hg => by obtain ⟨C, hC⟩ := a1.ty g hg; exact hf _ _ _ hC rfl), a2.kept (fun g hg => by obtain ⟨C, hC⟩ := a2.ty g hg; exact hf _ _ _ hC rfl), a3⟩
theorem LSZ.push {N M M2 : Nat} {w w' : World} {t : Nat} {vs1 vs2 : List Value} (h : LSZ N w t vs1 vs2) (hf : TyF (fun T => T = 3) w w') {P' : List Nat} {o1 o2 : Option Addr} {c1 c2 : Nat} (h1 : OwZ M 3 w' o1 P'.length c1 (iNs P')) (h2 : OwZ M2 3 w' o2 P'.length c2 (iNs P')) (hM : w.heap.size ≤ M) (hN : N ≤ M) (hN2 : N ≤ M2) (hl : P'.length ≤ 10000000) : LSZ N w' (t + 1) (vs1 ++ [.slice o1 P'.length c1]) (vs2 ++ [.slice o2 P'.length c2]) := by
  have hlt := h
  have hk := h.keptT hf
  obtain ⟨P, ro, ro2, rc, rc2, g1, g2, g3, g4⟩ := hlt
  refine ⟨updZ P t P', updZ ro t o1, updZ ro2 t o2, updZ rc t c1, updZ rc2 t c2, ?_, ?_, fun i hi => ?_, fun i j hij hj g g' hg hg' e => ?_⟩
  · rw [List.range_succ, List.map_append, g1]
    congr 1
    · exact List.map_congr_left (fun i hi => by have := List.mem_range.1 hi; rw [updZ_lt this, updZ_lt this, updZ_lt this])
    · simp [updZ_same]
  · rw [List.range_succ, List.map_append, g2]
    congr 1
    · exact List.map_congr_left (fun i hi => by have := List.mem_range.1 hi; rw [updZ_lt this, updZ_lt this, updZ_lt this])
    · simp [updZ_same]
  · by_cases e : i = t
    · subst e
      simp only [updZ_same]
      exact ⟨h1.monoN hN, h2.monoN hN2, hl⟩
    · simp only [updZ_ne e]
      obtain ⟨a1, a2, a3⟩ := g3 i (by omega)
      exact ⟨a1.kept (fun g hg => by obtain ⟨C, hC⟩ := a1.ty g hg; exact hf _ _ _ hC rfl), a2.kept (fun g hg => by obtain ⟨C, hC⟩ := a2.ty g hg; exact hf _ _ _ hC rfl), a3⟩
  · rw [updZ_lt (show i < t by omega)] at hg
    by_cases ej : j = t
    · subst ej
      rw [updZ_same] at hg'
      have q1 := (h1.lt g' hg').1
      have q2 := ((g3 i hij).1.lt g hg).2
      omega
    · rw [updZ_ne ej] at hg'
      exact g4 i j hij (by omega) g g' hg hg' e
/-- A PAIR -/
structure PA (N : Nat) (w : World) (pb n : Nat) (cb : Nat → Nat) (B : Nat → List Int) (X : Nat → Prop) (lb : Nat) (ao : Option Addr) (nt tc : Nat) (ts : Nat → Int) (lo : Option Addr) (lc : Nat) (rb : Nat) (ra : Option Addr) (rk : Nat) (ba : Nat → Option Addr) (bc : Nat → Nat) (db : Nat) (no : Option Addr) (nc : Nat) (lio : Option Addr) (lic : Nat) (wo : Option Addr) (wc t : Nat) (vs1 vs2 : List Value) (l1 : Nat → Nat) (k1 : Nat) (l2 : Nat → Nat) (k2 : Nat) : Prop where
  pq : PQ N w pb n cb B X lb ao nt tc ts lo lc rb ra rk ba bc (ptZ db) (.slice lio t lic) (.slice wo t wc) l1 k1 l2
  dl : DL w N rb ra rk n l2 B ba bc db no nt nc ts k2
  li : OwZ N 23 w lio t lic vs1
  wa : OwZ N 23 w wo t wc vs2
  ne : ∀ g g', lio = some g → wo = some g' → g.block ≠ g'.block
  dn : N ≤ db
  ls : LSZ N w t vs1 vs2
/-- what made hands out -/
def MadP (w : World) (L : List Mk) (Ts : List Int) (e : Ending) (w' : World) : Prop :=
  ∃ pb cb X lb ao tc lo lc rb ra rk ba bc db no nc, e = .returned (ptZ pb) ∧ PA w.heap.size w' pb L.length cb (bhM L) X lb ao Ts.length tc (tsT L.length Ts) lo lc rb ra rk ba bc db no nc none 0 none 0 0 [] [] (lsM L) 0 (lsM L) 0 ∧ RowKit.Below w.heap.size w w'
end Go.Proofs.Yteobmijfbjgccaa
