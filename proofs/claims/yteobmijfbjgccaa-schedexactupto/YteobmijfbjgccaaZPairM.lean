/-
  A pair: how it is made whole.
-/
import Derived.Test.YteobmijfbjgccaaZPairH
namespace Go.Proofs.Yteobmijfbjgccaa
open Go.RowKit Go.Sort

theorem MD.line {w wr w5 : World} {L : List Mk} {pb rb i : Nat} {cb : Nat → Nat} {X : Nat → Prop} {lo : Option Addr} {lc : Nat} {ra : Option Addr} {rk : Nat} {ba : Nat → Option Addr} {bc : Nat → Nat} {nt : Nat} {ts : Nat → Int} {e : Ending} (h : MD w L pb rb wr i i cb X lo lc ra rk ba bc) (hn : NLP wr i cb (lsM L) (bhM L) X nt ts e w5) :
    ∃ lb ao tc, e = .returned (ptZ lb) ∧ Hid (w5.cell? ⟨pb, 1, none⟩ = some (.pointer none) ∧ w5.frozen? ⟨pb, 1, none⟩ = false ∧ PQ w.heap.size (w5.setCell ⟨pb, 1, none⟩ (ptZ lb)) pb i cb (bhM L) X lb ao nt tc ts lo lc rb ra rk ba bc (.pointer none) (.slice none 0 0) (.slice none 0 0) (lsM L) 0 (lsM L) ∧ RowKit.Below w.heap.size w (w5.setCell ⟨pb, 1, none⟩ (ptZ lb)) ∧ (∀ g, ao = some g → wr.heap.size ≤ g.block) ∧ (∀ k, k < wr.heap.size → k ≠ pb → (w5.setCell ⟨pb, 1, none⟩ (ptZ lb)).heap[k]? = wr.heap[k]?)) := by
  obtain ⟨lb, ao, tc, rfl, hs, hb, hlb, hao⟩ := hn
  have hM := h.kept hb
  refine ⟨lb, ao, tc, rfl, ?_⟩
  have hf : FrZ (fun j => j = pb) w5 (w5.setCell ⟨pb, 1, none⟩ (ptZ lb)) := (FrZ.refl (fun j => j = pb) w5).set ⟨pb, 1, none⟩ (ptZ lb) (.inr rfl)
  have hne : ∀ (k : Nat) (C : Array Value) (T : TypeId), w5.heap[k]? = some (Obj.cells C T (0, 0)) → T ≠ 55 → (w5.setCell ⟨pb, 1, none⟩ (ptZ lb)).heap[k]? = w5.heap[k]? := fun k C T hk hT => hf.block k (blk_ltZ hk) (fun e => by rw [e, hM.pc] at hk; cases hk; exact hT rfl)
  refine ⟨by simp [World.cell?, hM.pc], frozen_of_row w5 _ _ _ _ hM.pc, ⟨by rw [heap_setCell_same w5 pb 1 _ _ _ hM.pc]; rfl, ⟨hs.ci.same (fun k hk => ?_), hs.ln.same (hne _ _ _ hs.ln.ln (by decide)) (fun g hg => ?_), hs.tz, hs.pot, hs.nb⟩, hM.ow.kept (fun g hg => ?_), hM.nx, hM.rd.keptT (fun k C T hk hT => hne k C T hk (by rcases hT with rfl | rfl | rfl | rfl <;> decide)), hM.pn, fun j hj => ?_⟩, hM.bl.trans (hf.below hM.bl.size (fun k e => by rw [e]; exact hM.pn)), hao, fun k hk hkp => (hf.block k (Nat.lt_of_lt_of_le hk hb.size) hkp).trans (hb.block k hk)⟩
  · obtain ⟨C, T, h1, h2⟩ := hs.ci.xt k hk
    exact hne _ _ _ h1 (by rcases h2 with rfl | rfl <;> decide)
  · obtain ⟨C, hC⟩ := hs.ln.rt g hg
    exact hne _ _ _ hC (by decide)
  · obtain ⟨C, hC⟩ := hM.ow.ty g hg
    exact hne _ _ _ hC (by decide)
  · rcases hj with hj | rfl
    · exact hM.xn j hj
    · have := h.bl.size; omega
theorem PQ.whole {N : Nat} {w w7 : World} {pb n : Nat} {cb : Nat → Nat} {B : Nat → List Int} {X : Nat → Prop} {lb : Nat} {ao : Option Addr} {nt tc : Nat} {ts : Nat → Int} {lo : Option Addr} {lc : Nat} {rb : Nat} {ra : Option Addr} {rk : Nat} {ba : Nat → Option Addr} {bc : Nat → Nat} {l1 : Nat → Nat} {k1 : Nat} {l2 : Nat → Nat}
    (h : PQ N w7 pb n cb B X lb ao nt tc ts lo lc rb ra rk ba bc (.pointer none) (.slice none 0 0) (.slice none 0 0) l1 k1 l2) (hN : N = w.heap.size) (hbl : RowKit.Below N w w7) {no : Option Addr} {nk M : Nat} (hno : OwZ M 3 w7 no nt nk (i64s ((List.range nt).map ts))) (hp : totZ n l2 ≤ 1000000000000) :
    Hid ((w7.alloc (.cells #[ptZ rb, .slice no nt nk, .int .i64 0] 63)).cell? ⟨pb, 3, none⟩ = some (.pointer none) ∧ (w7.alloc (.cells #[ptZ rb, .slice no nt nk, .int .i64 0] 63)).frozen? ⟨pb, 3, none⟩ = false ∧
    PA N ((w7.alloc (.cells #[ptZ rb, .slice no nt nk, .int .i64 0] 63)).setCell ⟨pb, 3, none⟩ (ptZ w7.heap.size)) pb n cb B X lb ao nt tc ts lo lc rb ra rk ba bc w7.heap.size no nk none 0 none 0 0 [] [] l1 k1 l2 0 ∧
    RowKit.Below N w ((w7.alloc (.cells #[ptZ rb, .slice no nt nk, .int .i64 0] 63)).setCell ⟨pb, 3, none⟩ (ptZ w7.heap.size))) := by
  have hb8 : RowKit.Below w7.heap.size w7 (w7.alloc (.cells #[ptZ rb, .slice no nt nk, .int .i64 0] 63)) := (Below.refl _ _).alloc (Nat.le_refl _) _
  have hdb : (w7.alloc (.cells #[ptZ rb, .slice no nt nk, .int .i64 0] 63)).heap[w7.heap.size]? = some (.cells #[ptZ rb, .slice no nt nk, .int .i64 0] 63 (0, 0)) := heap_alloc_new _ _ rfl
  generalize w7.alloc (.cells #[ptZ rb, .slice no nt nk, .int .i64 0] 63) = w8 at *
  have h8 := h.kept hb8
  have hq := h8.put 3 (ptZ w7.heap.size) (ptZ w7.heap.size) (.slice none 0 0) (.slice none 0 0) rfl
  have hf : FrZ (fun j => j = pb) w8 (w8.setCell ⟨pb, 3, none⟩ (ptZ w7.heap.size)) := (FrZ.refl (fun j => j = pb) w8).set ⟨pb, 3, none⟩ (ptZ w7.heap.size) (.inr rfl)
  have hne : ∀ (k : Nat) (C : Array Value) (T : TypeId), w8.heap[k]? = some (Obj.cells C T (0, 0)) → T ≠ 55 → (w8.setCell ⟨pb, 3, none⟩ (ptZ w7.heap.size)).heap[k]? = w8.heap[k]? := fun k C T hk hT => hf.block k (blk_ltZ hk) (fun e => by rw [e, h8.pc] at hk; cases hk; exact hT rfl)
  have hno8 := hno.kept (fun g hg => hb8.block _ (hno.lt g hg).2)
  refine ⟨by simp [World.cell?, h8.pc], frozen_of_row w8 _ _ _ _ h8.pc, ⟨hq, ⟨hq.rd, ?_, ?_, fun g hg => ?_, h.sl.tz, by omega, h.sl.nb⟩, OwZ.nil _ _ _, OwZ.nil _ _ _, (fun g g' hg => by cases hg), (by have := hbl.size; omega), LSZ.nil _ _⟩, ?_⟩
  · rw [hne _ _ _ hdb (by decide)]
    exact hdb
  · exact hno8.at_.sameZ (fun g hg => by
      obtain ⟨C, hC⟩ := hno8.ty g hg
      exact hne _ _ _ hC (by decide))
  · obtain ⟨C, hC⟩ := hno8.ty g hg
    exact ⟨C, (hne _ _ _ hC (by decide)).trans hC⟩
  · have hb2 : RowKit.Below N w w8 := hbl.trans (hb8.mono (by rw [hN]; have := hbl.size; omega))
    exact hb2.trans (hf.below (by have := hb2.size; omega) (fun k e => by rw [e]; exact h.pn))
end Go.Proofs.Yteobmijfbjgccaa
