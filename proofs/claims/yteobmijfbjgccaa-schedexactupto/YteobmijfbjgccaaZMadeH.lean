/-
  made: what stands while it goes.
-/
import Derived.Test.YteobmijfbjgccaaZLinH
import Derived.Test.YteobmijfbjgccaaZRefT
import Derived.Test.YteobmijfbjgccaaZMake
namespace Go.Proofs.Yteobmijfbjgccaa
open Go.RowKit Go.Sort

theorem step_appZ {w : World} {ops : Array Oper} {o : Oper} {a : Act} {K' : Act → World → Prop} {Q : Exit → Act → World → Prop} {E : Prop} (hgd : o.guard = none) (s x : Operand) (TS : TypeId)
    (ho : o.op = .call { callee := .builtin .append, args := #[s, x], argTypes := #[TS, TS] }) (v u : Value) (hs : a.eval s = v) (hx : a.eval x = u) {post : Value → World → Prop}
    (hr : ∀ ty, ∃ v' w', (Builtin.append_ #[TS, TS] ty #[v, u]).run Try.prog w = .ok v' w' ∧ post v' w') (h : ∀ v' w', post v' w' → K' (a.put o.dst v') w') :
    if Region.wanted o (yielded ops a.tmps) = true then Oper.wp Try.prog o a w K' Q else E := by
  have hw : Region.wanted o (yielded ops a.tmps) = true := by simp [Region.wanted, hgd]
  rw [if_pos hw]
  obtain ⟨v', w', hr, h2⟩ := hr o.type
  unfold Oper.wp execOp
  simp only [ho, resolve, invoke, builtin, Sem.run_bind, Sem.run_pure, Result.andThen_ok, List.map_toArray, List.map_cons, List.map_nil, hs, hx, hr]
  exact h v' w' h2
/-- a number of a chore, or -1 -/
def wbZ (z : Int) (i : Nat) : Int := if z < 0 ∨ i = 0 then -1 else z % (i : Int)
theorem wbZ_lt (z : Int) (i : Nat) : wbZ z i < (i : Int) ∧ -1 ≤ wbZ z i := by
  unfold wbZ
  split
  · omega
  · have := Int.emod_nonneg z (b := (i : Int)) (by omega)
    have := Int.emod_lt_of_pos z (b := (i : Int)) (by omega)
    omega
def bhM (L : List Mk) (i : Nat) : List Int := (L.getD i default).zs.map (fun z => wbZ z i)
theorem bhM_lt (L : List Mk) (i : Nat) : ∀ z ∈ bhM L i, z < (i : Int) := fun z hz => by
  obtain ⟨y, _, rfl⟩ := List.mem_map.1 hz
  exact (wbZ_lt y i).1
/-- while chores are made: i of the program, j of the document -/
structure MD (w : World) (L : List Mk) (pb rb : Nat) (wr : World) (i j : Nat) (cb : Nat → Nat) (X : Nat → Prop) (lo : Option Addr) (lc : Nat) (ra : Option Addr) (rk : Nat) (ba : Nat → Option Addr) (bc : Nat → Nat) : Prop where
  pc : wr.heap[pb]? = some (.cells #[.slice lo i lc, .pointer none, ptZ rb, .pointer none, .slice none 0 0, .slice none 0 0] 55 (0, 0))
  ci : CI wr i cb (lsM L) (bhM L) X
  ow : OwZ w.heap.size 44 wr lo i lc ((List.range i).map (fun (j : Nat) => ptZ (cb j)))
  nx : ∀ g, lo = some g → ¬ X g.block
  rd : RD wr w.heap.size rb ra rk j (lsM L) (bhM L) ba bc
  bl : RowKit.Below w.heap.size w wr
  xn : ∀ k, X k → w.heap.size ≤ k
  pn : w.heap.size ≤ pb
section
variable {w wr w' : World} {L : List Mk} {pb rb : Nat} {i j : Nat} {cb : Nat → Nat} {X : Nat → Prop} {lo : Option Addr} {lc : Nat} {ra : Option Addr} {rk : Nat} {ba : Nat → Option Addr} {bc : Nat → Nat}
theorem MD.kept (h : MD w L pb rb wr i j cb X lo lc ra rk ba bc) (hb : RowKit.Below wr.heap.size wr w') : MD w L pb rb w' i j cb X lo lc ra rk ba bc :=
  ⟨(hb.block _ (blk_ltZ h.pc)).trans h.pc, h.ci.kept hb, h.ow.kept (fun g hg => hb.block _ (h.ow.lt g hg).2), h.nx, h.rd.keptT (TyF.ofBelow hb), h.bl.trans (hb.mono h.bl.size), h.xn, h.pn⟩
/-- rows of chores that are not its own may turn -/
theorem MD.rows (h : MD w L pb rb wr i j cb X lo lc ra rk ba bc) {b : Nat} (hf : FrZ (fun k => k = b) wr w') (hb : ∃ C, wr.heap[b]? = some (.cells C 44 (0, 0))) (hx : ¬ X b) (hl : ∀ g, lo = some g → g.block ≠ b) (hN : w.heap.size ≤ b) : MD w L pb rb w' i j cb X lo lc ra rk ba bc := by
  obtain ⟨C, hC⟩ := hb
  refine ⟨(hf.block _ (blk_ltZ h.pc) (fun e => by rw [← e, h.pc] at hC; cases hC)).trans h.pc, h.ci.frame hf (fun k hk e => hx (e ▸ hk)), h.ow.kept (fun g hg => hf.block _ (h.ow.lt g hg).2 (hl g hg)), h.nx, h.rd.keptT (TyF.ofFr hf (fun k C' T hk hT e => ?_)), h.bl.trans (hf.below h.bl.size (fun k e => by rw [e]; exact hN)), h.xn, h.pn⟩
  rw [e, hC] at hk
  cases hk
  rcases hT with hT | hT | hT | hT <;> cases hT
/-- a chore is made, and goes into the list -/
theorem MD.next (h : MD w L pb rb wr i j cb X lo lc ra rk ba bc) (hi : i < L.length) (hb : L.length ≤ 1000000) {W : World} (hW : RowKit.Below wr.heap.size wr W) {e : Ending} {w1 : World} (hn : NCP W i cb (lsM L) (bhM L) X L[i].s (bhM L i) e w1) :
    ∃ b0, e = .returned (ptZ b0) ∧ ∀ ty, ∃ v' w2, (Builtin.append_ #[35, 35] ty #[.slice lo i lc, .slice (some ⟨w1.heap.size, 0, none⟩) 1 1]).run Try.prog (w1.alloc (.cells #[ptZ b0] 44)) = .ok v' w2 ∧ ∃ lo' lc', v' = .slice lo' (i + 1) lc' ∧ Hid (w2.cell? ⟨pb, 0, none⟩ = some (.slice lo i lc) ∧ w2.frozen? ⟨pb, 0, none⟩ = false ∧ RowKit.Below w.heap.size w w2 ∧ ∃ cb' X', MD w L pb rb (w2.setCell ⟨pb, 0, none⟩ (.slice lo' (i + 1) lc')) (i + 1) j cb' X' lo' lc' ra rk ba bc ∧ (∀ k, k < W.heap.size → wr.heap.size ≤ k → ¬ X' k ∧ (∀ g, lo' = some g → g.block ≠ k) ∧ (w2.setCell ⟨pb, 0, none⟩ (.slice lo' (i + 1) lc')).heap[k]? = W.heap[k]?)) := by
  have h0 := h
  replace h := h.kept hW
  obtain ⟨b0, X', rfl, hc, hx1, hx2, hb0, hbl⟩ := hn
  refine ⟨b0, rfl, fun ty => ?_⟩
  have ho1 := h.ow.kept (fun g hg => hbl.block _ (h.ow.lt g hg).2)
  obtain ⟨v', w2, hr, lo', lc', rfl, ho, hf, hp⟩ := appZ (TS := 35) (TE := 44) Try.underlying35 infoZP rfl ho1 (Nat.le_trans h.bl.size hbl.size) (ptZ b0) rfl (by unfold maxLen; omega) (by omega) ty
  have hnx : ∀ g, lo = some g → ¬ X' g.block := fun g hg hx => by
    rcases hx2 _ hx with hx | hx
    · exact h.nx g hg hx
    · have := (h.ow.lt g hg).2; omega
  have hpb : w2.heap[pb]? = some (.cells #[.slice lo i lc, .pointer none, ptZ rb, .pointer none, .slice none 0 0, .slice none 0 0] 55 (0, 0)) := by
    rw [hf.block pb (Nat.lt_of_lt_of_le (blk_ltZ h.pc) hbl.size) (fun hS => ?_), hbl.block pb (blk_ltZ h.pc)]
    · exact h.pc
    · obtain ⟨g, hg, e⟩ := hS
      obtain ⟨C, hC⟩ := h.ow.ty g hg
      rw [e, h.pc] at hC; cases hC
  have e3 := heap_setCell_same w2 pb 0 _ _ (.slice lo' (i + 1) lc') hpb
  have hoth : ∀ k, k ≠ pb → (w2.setCell ⟨pb, 0, none⟩ (.slice lo' (i + 1) lc')).heap[k]? = w2.heap[k]? := fun k hk => setW_block w2 ⟨pb, 0, none⟩ _ k hk
  have hpt : ∀ {C : Array Value} {T : TypeId}, w2.heap[pb]? = some (.cells C T (0, 0)) → T = 55 := fun {C T} hh => by rw [hpb] at hh; cases hh; rfl
  have hs := h.bl.size
  have hb2 : RowKit.Below w.heap.size w w2 := (h.bl.trans (hbl.mono hs)).trans (hf.below (Nat.le_trans hs hbl.size) (fun k hk => by obtain ⟨g, hg, rfl⟩ := hk; exact (h.ow.lt g hg).1))
  refine ⟨_, w2, hr, lo', lc', rfl, by simp [World.cell?, hpb], frozen_of_row w2 _ _ _ _ hpb, hb2, updZ cb i b0, X', ⟨by rw [e3]; rfl, ?_, ?_, fun g hg hx => ?_, ?_, ?_, fun k hk => ?_, h.pn⟩, fun k hk1 hk2 => ⟨fun hx => ?_, fun g hg e => ?_, ?_⟩⟩
  · have hc2 : CI w2 (i + 1) (updZ cb i b0) (updZ (lsM L) i (limZ L[i].s)) (updZ (bhM L) i (bhM L i)) X' := hc.frame hf (fun k hk hS => by
      obtain ⟨g, hg, rfl⟩ := hS
      exact hnx g hg hk)
    refine (hc2.same (fun k hk => hoth k (fun e => ?_))).congr (fun q hq => ?_) (fun q hq => ?_)
    · obtain ⟨C, T, h1, h2⟩ := hc2.xt k hk
      rw [e] at h1
      have := hpt h1
      rw [this] at h2
      rcases h2 with h2 | h2 <;> cases h2
    · by_cases e : q = i
      · subst e; rw [updZ_same, lsM, getM hi]
      · rw [updZ_ne e]
    · by_cases e : q = i
      · subst e; rw [updZ_same]
      · rw [updZ_ne e]
  · rw [ptZs_upd]
    refine ho.kept (fun g hg => hoth _ (fun e => ?_))
    obtain ⟨C, hC⟩ := ho.ty g hg
    rw [e] at hC
    cases hpt hC
  · rcases hp g hg with h1 | h1
    · have := hc.lt hx; omega
    · exact hnx g (h1 ▸ hg) hx
  · refine ((h.rd.keptT (TyF.ofBelow hbl)).keptT (TyF.ofFr hf (fun k C' T hk hT hS => ?_))).keptT (fun k C' T hk hT => hoth k (fun e => ?_))
    · obtain ⟨g, hg, e⟩ := hS
      obtain ⟨C, hC⟩ := ho1.ty g hg
      rw [e, hk] at hC; cases hC
      rcases hT with hT | hT | hT | hT <;> cases hT
    · rw [e] at hk
      have := hpt hk
      subst this
      rcases hT with hT | hT | hT | hT <;> cases hT
  · exact ⟨hb2.os, hb2.tape, hb2.output, by simpa using hb2.size, fun k hk => (hoth k (by have := h.pn; omega)).trans (hb2.block k hk)⟩
  · rcases hx2 _ hk with hx | hx
    · exact h.xn k hx
    · have := h.bl.size; omega
  · rcases hx2 _ hx with hx | hx
    · have := h0.ci.lt hx; omega
    · omega
  · rcases hp g hg with h1 | h1
    · have := hbl.size; omega
    · have := (h0.ow.lt g (h1 ▸ hg)).2; omega
  · rw [hoth k (by have := blk_ltZ h0.pc; omega), hf.block k (Nat.lt_of_lt_of_le hk1 hbl.size) (fun hS => ?_), hbl.block k hk1]
    obtain ⟨g, hg, e⟩ := hS
    have := (h0.ow.lt g hg).2; omega
/-- the document makes one -/
theorem MD.make (h : MD w L pb rb wr i j cb X lo lc ra rk ba bc) (hj : j < L.length) {bo : Option Addr} {bk : Nat} {e : Ending} (hm : MkP wr w.heap.size rb ra j (lsM L) (bhM L) ba bc L[j].s (bhM L j) bo bk e w') : ∃ ra' rk' ba' bc', e = .returned (.int .i64 (j : Int)) ∧ MD w L pb rb w' i (j + 1) cb X lo lc ra' rk' ba' bc' := by
  obtain ⟨ra', rk', rfl, hr, hf⟩ := hm
  have hS : ∀ k, (k = rb ∨ ∃ g, ra = some g ∧ g.block = k) → ∃ C T, wr.heap[k]? = some (.cells C T (0, 0)) ∧ (T = 51 ∨ T = 68) ∧ w.heap.size ≤ k := fun k hk => by
    rcases hk with rfl | ⟨g, hg, rfl⟩
    · exact ⟨_, _, h.rd.hd, .inl rfl, h.rd.nb⟩
    · obtain ⟨C, hC, hN⟩ := h.rd.rt g hg
      exact ⟨C, _, hC, .inr rfl, hN⟩
  have hne : ∀ k C T, wr.heap[k]? = some (.cells C T (0, 0)) → T ≠ 51 → T ≠ 68 → ¬ (k = rb ∨ ∃ g, ra = some g ∧ g.block = k) := fun k C T hk h1 h2 hs => by
    obtain ⟨C', T', h3, h4, _⟩ := hS k hs
    rw [hk] at h3
    cases h3
    rcases h4 with h4 | h4
    · exact h1 h4
    · exact h2 h4
  refine ⟨ra', rk', updZ ba j bo, updZ bc j bk, rfl, ⟨(hf.block _ (blk_ltZ h.pc) (hne _ _ _ h.pc (by decide) (by decide))).trans h.pc, h.ci.frame hf (fun k hk => ?_), h.ow.kept (fun g hg => ?_), h.nx, ?_, h.bl.trans (hf.below h.bl.size (fun k hk => ?_)), h.xn, h.pn⟩⟩
  · obtain ⟨C, T, h1, h2⟩ := h.ci.xt k hk
    refine hne k C T h1 ?_ ?_ <;> rcases h2 with rfl | rfl <;> decide
  · obtain ⟨C, hC⟩ := h.ow.ty g hg
    exact hf.block _ (blk_ltZ hC) (hne _ _ _ hC (by decide) (by decide))
  · have e1 : updZ (lsM L) j (limZ L[j].s) = lsM L := funext (fun q => by
      by_cases e : q = j
      · subst e; rw [updZ_same, lsM, getM hj]
      · rw [updZ_ne e])
    have e2 : updZ (bhM L) j (bhM L j) = bhM L := funext (fun q => by
      by_cases e : q = j
      · subst e; rw [updZ_same]
      · rw [updZ_ne e])
    rw [e1, e2] at hr
    exact hr
  · obtain ⟨_, _, _, _, hN⟩ := hS k hk
    exact hN
end
end Go.Proofs.Yteobmijfbjgccaa
