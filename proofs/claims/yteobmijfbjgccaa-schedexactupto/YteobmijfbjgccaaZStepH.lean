/-
  A pair's step: what it leaves.
-/
import Derived.Test.YteobmijfbjgccaaZPairM
namespace Go.Proofs.Yteobmijfbjgccaa
open Go.RowKit Go.Sort

theorem infoZS : (Try.prog.info? 23).map (fun i => (i.zero, i.size, i.bytes)) = some (some (.slice none 0 0), 1, 24) := by kernel_rfl
section
variable {N : Nat} {w w' : World} {pb n : Nat} {cb : Nat → Nat} {B : Nat → List Int} {X : Nat → Prop} {lb : Nat} {ao : Option Addr} {nt tc : Nat} {ts : Nat → Int} {lo : Option Addr} {lc : Nat} {rb : Nat} {ra : Option Addr} {rk : Nat} {ba : Nat → Option Addr} {bc : Nat → Nat} {db : Nat} {no : Option Addr} {nc : Nat} {lio : Option Addr} {lic : Nat} {wo : Option Addr} {wc t : Nat} {vs1 vs2 : List Value} {l1 : Nat → Nat} {k1 : Nat} {l2 : Nat → Nat} {k2 : Nat}
theorem PA.kept (h : PA N w pb n cb B X lb ao nt tc ts lo lc rb ra rk ba bc db no nc lio lic wo wc t vs1 vs2 l1 k1 l2 k2) (hb : RowKit.Below w.heap.size w w') : PA N w' pb n cb B X lb ao nt tc ts lo lc rb ra rk ba bc db no nc lio lic wo wc t vs1 vs2 l1 k1 l2 k2 :=
  ⟨h.pq.kept hb, h.dl.kept hb, h.li.kept (fun g hg => hb.block _ (h.li.lt g hg).2), h.wa.kept (fun g hg => hb.block _ (h.wa.lt g hg).2), h.ne, h.dn, h.ls.keptT (TyF.ofBelow hb)⟩
/-- the program goes on -/
theorem PA.goC (h : PA N w pb n cb B X lb ao nt tc ts lo lc rb ra rk ba bc db no nc lio lic wo wc t vs1 vs2 l1 k1 l2 k2) {l1' : Nat → Nat} {k1' : Nat} (hs : SL w' n cb l1' B X lb ao nt tc ts k1') (hf : FrZ (fun j => X j ∨ j = lb) w w') : PA N w' pb n cb B X lb ao nt tc ts lo lc rb ra rk ba bc db no nc lio lic wo wc t vs1 vs2 l1' k1' l2 k2 ∧ TyF (fun T => T ≠ 77 ∧ T ≠ 44 ∧ T ≠ 73) w w' := by
  obtain ⟨h1, hT⟩ := h.pq.goC hs hf
  refine ⟨⟨h1, h.dl.keptT (fun k C T hk hd => hT k C T hk (by rcases hd with rfl | rfl | rfl | rfl <;> decide)), h.li.kept (fun g hg => ?_), h.wa.kept (fun g hg => ?_), h.ne, h.dn, h.ls.keptT (fun k C T hk hd => hT k C T hk (by rw [hd]; decide))⟩, hT⟩
  · obtain ⟨C, hC⟩ := h.li.ty g hg
    exact hT _ _ _ hC (by decide)
  · obtain ⟨C, hC⟩ := h.wa.ty g hg
    exact hT _ _ _ hC (by decide)
/-- the document goes on -/
theorem PA.goD (h : PA N w pb n cb B X lb ao nt tc ts lo lc rb ra rk ba bc db no nc lio lic wo wc t vs1 vs2 l1 k1 l2 k2) {l2' : Nat → Nat} {k2' : Nat} (hd : DL w' N rb ra rk n l2' B ba bc db no nt nc ts k2') (hf : FrZ (fun j => (∃ g, ra = some g ∧ g.block = j) ∨ j = db) w w') : PA N w' pb n cb B X lb ao nt tc ts lo lc rb ra rk ba bc db no nc lio lic wo wc t vs1 vs2 l1 k1 l2' k2' ∧ TyF (fun T => T ≠ 68 ∧ T ≠ 63) w w' := by
  have hS : ∀ (k : Nat) (C : Array Value) (T : TypeId), w.heap[k]? = some (Obj.cells C T (0, 0)) → (T ≠ 68 ∧ T ≠ 63) → ¬ ((∃ g, ra = some g ∧ g.block = k) ∨ k = db) := fun k C T hk hT hx => by
    rcases hx with ⟨g, hg, e⟩ | hx
    · obtain ⟨C', hC, _⟩ := h.dl.rd.rt g hg
      rw [e, hk] at hC; cases hC
      exact hT.1 rfl
    · rw [hx, h.dl.dl] at hk; cases hk
      exact hT.2 rfl
  have hT := TyF.ofFr hf hS
  refine ⟨⟨⟨(hT _ _ _ h.pq.pc ⟨by decide, by decide⟩).trans h.pq.pc, ⟨h.pq.sl.ci.same (fun k hk => ?_), h.pq.sl.ln.same (hT _ _ _ h.pq.sl.ln.ln ⟨by decide, by decide⟩) (fun g hg => ?_), h.pq.sl.tz, h.pq.sl.pot, h.pq.sl.nb⟩, h.pq.ow.kept (fun g hg => ?_), h.pq.nx, hd.rd, h.pq.pn, h.pq.xn⟩, hd, h.li.kept (fun g hg => ?_), h.wa.kept (fun g hg => ?_), h.ne, h.dn, h.ls.keptT (fun k C T hk hd => hT k C T hk (by rw [hd]; decide))⟩, hT⟩
  · obtain ⟨C, T, h1, h2⟩ := h.pq.sl.ci.xt k hk
    exact hT _ _ _ h1 (by rcases h2 with rfl | rfl <;> decide)
  · obtain ⟨C, hC⟩ := h.pq.sl.ln.rt g hg
    exact hT _ _ _ hC (by decide)
  · obtain ⟨C, hC⟩ := h.pq.ow.ty g hg
    exact hT _ _ _ hC (by decide)
  · obtain ⟨C, hC⟩ := h.li.ty g hg
    exact hT _ _ _ hC (by decide)
  · obtain ⟨C, hC⟩ := h.wa.ty g hg
    exact hT _ _ _ hC (by decide)
/-- what may turn -/
theorem PA.ge (h : PA N w pb n cb B X lb ao nt tc ts lo lc rb ra rk ba bc db no nc lio lic wo wc t vs1 vs2 l1 k1 l2 k2) : (∀ j, X j ∨ j = lb → N ≤ j) ∧ (∀ j, ((∃ g, ra = some g ∧ g.block = j) ∨ j = db) → N ≤ j) := by
  refine ⟨h.pq.xn, fun j hj => ?_⟩
  rcases hj with ⟨g, hg, rfl⟩ | rfl
  · obtain ⟨_, _, h1⟩ := h.dl.rd.rt g hg
    exact h1
  · exact h.dn
end
theorem WAt.sameN {w w' : World} {a : Option Addr} {ps : List Int} (h : WAt w a (i64s ps)) (hs : ps ≠ [] → ∀ g, a = some g → w'.heap[g.block]? = w.heap[g.block]?) : WAt w' a (i64s ps) := by
  by_cases e : ps = []
  · subst e; intro j u hu; simp [i64s] at hu
  · exact h.sameZ (hs e)
/-- a pair in which both hold the same -/
def PS (N : Nat) (w : World) (pb n : Nat) (B : Nat → List Int) (nt : Nat) (ts : Nat → Int) (t : Nat) : Prop := ∃ cb X lb ao tc lo lc rb ra rk ba bc db no nc lio lic wo wc vs1 vs2 l k, PA N w pb n cb B X lb ao nt tc ts lo lc rb ra rk ba bc db no nc lio lic wo wc t vs1 vs2 l k l k
/-- what a step leaves -/
def StP (N : Nat) (w : World) (pb n : Nat) (B : Nat → List Int) (nt : Nat) (ts : Nat → Int) (t : Nat) (e : Ending) (w' : World) : Prop := e = .returned (.bool true) ∧ ∃ t', t' ≤ t + 1 ∧ PS N w' pb n B nt ts t' ∧ RowKit.Below N w w'
/-- a step of one kind -/
def StepOK (kd : Int) : Prop := ∀ (N : Nat) (w : World) (pb n : Nat) (B : Nat → List Int) (nt : Nat) (ts : Nat → Int) (t : Nat) (x : Int) (a : Option Addr) (c m : Nat) (ps : List Int), PS N w pb n B nt ts t → n ≤ 100000 → t ≤ 1000000 → N ≤ w.heap.size → m = ps.length → m ≤ 100000 → WAt w a (i64s ps) → (a = none → c = 0) → (∀ g, a = some g → ps ≠ [] → g.block < N) → Calls Try.prog 13 #[ptZ pb, .agg #[.int .i64 kd, .int .i64 x, .slice a m c]] w fun e w' => StP N w pb n B nt ts t e w'
end Go.Proofs.Yteobmijfbjgccaa
