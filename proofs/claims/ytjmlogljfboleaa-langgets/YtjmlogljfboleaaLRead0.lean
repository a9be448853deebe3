/-
  WHAT STANDS WHILE THE DOCUMENT READS A PROGRAM.
-/
import Derived.Test.YtjmlogljfboleaaLRMath
import Derived.Test.YtjmlogljfboleaaMGenRaw
namespace Go.Proofs.Ytjmlogljfboleaa
open Go.RowKit Go.Sort

structure GM (w W : World) (r : Nat) (ad : Option Addr) (c : Nat) (b : List Nat) (p' : Nat) (e' : Int) (q : Nums) (av : Option Addr) (cv : Nat) (M : List K) : Prop where
  rd : IsMod W r ad c b p' e'
  gr : w.grownBy W (some r)
  b2 : PBox W w.heap.size ⟨0, 0, 0, 0⟩ none 0 0
  b3 : PBox W (w.heap.size + 1) q av M.length cv
  own : OwnK W (w.heap.size + 2) (.slice av M.length cv) M
  r2 : r < w.heap.size
  bl : ∀ x, b ≠ [] → ad = some x → x.block < w.heap.size
section
variable {w W W' : World} {r : Nat} {ad : Option Addr} {c : Nat} {b : List Nat} {p' p2 : Nat} {e' e2 : Int} {q q' : Nums} {av av' : Option Addr} {cv cv' : Nat} {M M' : List K}
theorem GM.step (h : GM w W r ad c b p' e' q av cv M) (hr : Mods W r ad c b p2 e2 W') : GM w W' r ad c b p2 e2 q av cv M := by
  have hr2 := h.r2
  exact ⟨hr.1, grown_trans' h.gr hr.2, (hr.2.block _ h.b2.lt (fun e => by simp at e; omega)).trans h.b2, (hr.2.block _ h.b3.lt (fun e => by simp at e; omega)).trans h.b3, h.own.same fun g hg => hr.2.block g (h.own.lt g hg).2 (fun e => by have := (h.own.lt g hg).1; simp at e; omega), h.r2, h.bl⟩
theorem GM.kept (h : GM w W r ad c b p' e' q av cv M) (hb : Below W.heap.size W W') : GM w W' r ad c b p' e' q av cv M :=
  ⟨h.rd.kept hb, grown_trans' h.gr (grown_below hb), h.b2.kept hb, h.b3.kept hb, h.own.kept hb, h.r2, h.bl⟩
/-- a cell of a block that the call made -/
theorem mods_setNew (h1 : IsMod W r ad c b p' e') (h2 : w.grownBy W (some r)) (hr : r < w.heap.size) (hbl : ∀ x, b ≠ [] → ad = some x → x.block < w.heap.size) (B i : Nat) (v : Value) (hB : w.heap.size ≤ B) : Mods w r ad c b p' e' (W.setCell ⟨B, i, none⟩ v) := by
  refine ⟨h1.grown (grown_setCell W ⟨B, i, none⟩ v) (fun e => by simp at e; omega) (fun k hk x h0 hx e => by have := hbl x h0 hx; simp at hk; omega), ?_⟩
  exact ⟨h2.os, h2.tape, h2.output, by have := h2.size; show w.heap.size ≤ _; rw [World.size_setCell]; exact this, fun k hk hne => (heap_setCell_other W ⟨B, i, none⟩ k v (by simp; omega)).trans (h2.block k hk hne)⟩
theorem GM.setH (h : GM w W r ad c b p' e' q av cv M) (i : Nat) (v : Value) (hc : (#[.int .i64 q.args, .int .i64 q.reads, .int .i64 q.writes, .int .i64 q.locals, .slice av M.length cv] : Array Value).setIfInBounds i v = #[.int .i64 q'.args, .int .i64 q'.reads, .int .i64 q'.writes, .int .i64 q'.locals, .slice av M.length cv]) :
    GM w (W.setCell ⟨w.heap.size + 1, i, none⟩ v) r ad c b p' e' q' av cv M := by
  obtain ⟨m1, m2⟩ := mods_setNew h.rd h.gr h.r2 h.bl (w.heap.size + 1) i v (by omega)
  refine ⟨m1, m2, (heap_setCell_other W ⟨w.heap.size + 1, i, none⟩ w.heap.size v (by simp)).trans h.b2, ?_, h.own.same (fun g hg => heap_setCell_other W ⟨w.heap.size + 1, i, none⟩ g v (by have := (h.own.lt g hg).1; simp; omega)), h.r2, h.bl⟩
  have := heap_setCell_same W (w.heap.size + 1) i _ _ v h.b3
  unfold PBox
  rw [this, hc]
/-- behind the append and the store -/
theorem GM.put (h : GM w W r ad c b p' e' q av cv M) (ho : OwnK W' (w.heap.size + 2) (.slice av' M'.length cv') M') (hg : W.grownBy W' (Value.slice av M.length cv).ownBlock) : GM w (W'.setCell ⟨w.heap.size + 1, 4, none⟩ (.slice av' M'.length cv')) r ad c b p' e' q av' cv' M' := by
  have hr2 := h.r2
  have hown : ∀ k, (Value.slice av M.length cv).ownBlock = some k → w.heap.size + 2 ≤ k := fun k hk => (h.own.lt k hk).1
  have h1 : IsMod W' r ad c b p' e' := h.rd.grown hg (fun e => by have := hown r e; omega) (fun k hk x h0 hx e => by have := hown k hk; have := h.bl x h0 hx; omega)
  have h2 : w.grownBy W' (some r) := ⟨hg.os.trans h.gr.os, hg.tape.trans h.gr.tape, hg.output.trans h.gr.output, Nat.le_trans h.gr.size hg.size, fun k hk hr => by
    rw [hg.block k (Nat.lt_of_lt_of_le hk h.gr.size) (fun e => by have := hown k e.symm; omega), h.gr.block k hk hr]⟩
  have hb2 : PBox W' w.heap.size ⟨0, 0, 0, 0⟩ none 0 0 := (hg.block _ h.b2.lt (fun e => by have := hown _ e.symm; omega)).trans h.b2
  have hb3 : PBox W' (w.heap.size + 1) q av M.length cv := (hg.block _ h.b3.lt (fun e => by have := hown _ e.symm; omega)).trans h.b3
  obtain ⟨m1, m2⟩ := mods_setNew h1 h2 h.r2 h.bl (w.heap.size + 1) 4 (.slice av' M'.length cv') (by omega)
  refine ⟨m1, m2, (heap_setCell_other W' ⟨w.heap.size + 1, 4, none⟩ w.heap.size _ (by simp)).trans hb2, ?_, ho.same (fun g hg' => heap_setCell_other W' ⟨w.heap.size + 1, 4, none⟩ g _ (by have := (ho.lt g hg').1; simp; omega)), h.r2, h.bl⟩
  have := heap_setCell_same W' (w.heap.size + 1) 4 _ _ (.slice av' M'.length cv') hb3
  unfold PBox
  rw [this]; rfl
theorem GM.fin (h : GM w W r ad c b p' e' q av cv M) (x0 x1 x2 x3 : Int) (ao : Option Addr) (n cap : Nat) :
    Mods w r ad c b p' e' (((((W.setCell ⟨w.heap.size, 0, none⟩ (.int .i64 x0)).setCell ⟨w.heap.size, 1, none⟩ (.int .i64 x1)).setCell ⟨w.heap.size, 2, none⟩ (.int .i64 x2)).setCell ⟨w.heap.size, 3, none⟩ (.int .i64 x3)).setCell ⟨w.heap.size, 4, none⟩ (.slice ao n cap)) ∧ OwnK (((((W.setCell ⟨w.heap.size, 0, none⟩ (.int .i64 x0)).setCell ⟨w.heap.size, 1, none⟩ (.int .i64 x1)).setCell ⟨w.heap.size, 2, none⟩ (.int .i64 x2)).setCell ⟨w.heap.size, 3, none⟩ (.int .i64 x3)).setCell ⟨w.heap.size, 4, none⟩ (.slice ao n cap)) (w.heap.size + 2) (.slice av M.length cv) M ∧
    (loadVar 24 ⟨w.heap.size, 0, none⟩).run Try.prog (((((W.setCell ⟨w.heap.size, 0, none⟩ (.int .i64 x0)).setCell ⟨w.heap.size, 1, none⟩ (.int .i64 x1)).setCell ⟨w.heap.size, 2, none⟩ (.int .i64 x2)).setCell ⟨w.heap.size, 3, none⟩ (.int .i64 x3)).setCell ⟨w.heap.size, 4, none⟩ (.slice ao n cap)) = .ok (.agg #[.int .i64 x0, .int .i64 x1, .int .i64 x2, .int .i64 x3, .slice ao n cap]) (((((W.setCell ⟨w.heap.size, 0, none⟩ (.int .i64 x0)).setCell ⟨w.heap.size, 1, none⟩ (.int .i64 x1)).setCell ⟨w.heap.size, 2, none⟩ (.int .i64 x2)).setCell ⟨w.heap.size, 3, none⟩ (.int .i64 x3)).setCell ⟨w.heap.size, 4, none⟩ (.slice ao n cap)) := by
  have h1 := heap_setCell_same W w.heap.size 0 _ _ (.int .i64 x0) h.b2
  have h2 := heap_setCell_same _ w.heap.size 1 _ _ (.int .i64 x1) h1
  have h3 := heap_setCell_same _ w.heap.size 2 _ _ (.int .i64 x2) h2
  have h4 := heap_setCell_same _ w.heap.size 3 _ _ (.int .i64 x3) h3
  have h5 := heap_setCell_same _ w.heap.size 4 _ _ (.slice ao n cap) h4
  have m0 := mods_setNew h.rd h.gr h.r2 h.bl w.heap.size 0 (.int .i64 x0) (Nat.le_refl _)
  have m1 := mods_setNew m0.1 m0.2 h.r2 h.bl w.heap.size 1 (.int .i64 x1) (Nat.le_refl _)
  have m2 := mods_setNew m1.1 m1.2 h.r2 h.bl w.heap.size 2 (.int .i64 x2) (Nat.le_refl _)
  have m3 := mods_setNew m2.1 m2.2 h.r2 h.bl w.heap.size 3 (.int .i64 x3) (Nat.le_refl _)
  have m4 := mods_setNew m3.1 m3.2 h.r2 h.bl w.heap.size 4 (.slice ao n cap) (Nat.le_refl _)
  have ho : ∀ g, g ≠ w.heap.size → (((((W.setCell ⟨w.heap.size, 0, none⟩ (.int .i64 x0)).setCell ⟨w.heap.size, 1, none⟩ (.int .i64 x1)).setCell ⟨w.heap.size, 2, none⟩ (.int .i64 x2)).setCell ⟨w.heap.size, 3, none⟩ (.int .i64 x3)).setCell ⟨w.heap.size, 4, none⟩ (.slice ao n cap)).heap[g]? = W.heap[g]? := fun g hg => by
    rw [heap_setCell_other _ ⟨w.heap.size, 4, none⟩ g _ hg, heap_setCell_other _ ⟨w.heap.size, 3, none⟩ g _ hg, heap_setCell_other _ ⟨w.heap.size, 2, none⟩ g _ hg, heap_setCell_other _ ⟨w.heap.size, 1, none⟩ g _ hg, heap_setCell_other _ ⟨w.heap.size, 0, none⟩ g _ hg]
  refine ⟨m4, h.own.same (fun g hg => ho g (by have := (h.own.lt g hg).1; omega)), ?_⟩
  refine run_loadVar_mid (P := Try.prog) _ w.heap.size 0 24 [.int .i64 x0, .int .i64 x1, .int .i64 x2, .int .i64 x3, .slice ao n cap] _ ?_ Try.underlying24 rfl (by kernel_rfl)
  intro j v hv
  simp only [World.cell?, h5, Nat.zero_add]
  simpa using hv
end
def GPostM (w : World) (r : Nat) (ad : Option Addr) (c : Nat) (b : List Nat) (p : Nat) (e : Int) (e' : Ending) (W : World) : Prop :=
  ∃ ao cap, e' = .returned (pv (getP b p e).1 ao (getP b p e).2.1.length cap) ∧ OwnK W w.heap.size (.slice ao (getP b p e).2.1.length cap) (getP b p e).2.1 ∧ Mods w r ad c b (getP b p e).2.2.1 (getP b p e).2.2.2 W
end Go.Proofs.Ytjmlogljfboleaa
