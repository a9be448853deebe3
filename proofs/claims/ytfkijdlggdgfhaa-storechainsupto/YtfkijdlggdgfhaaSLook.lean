/-
  told, Look, KeyOf; fill, Fill.
-/
import Derived.Test.YtfkijdlggdgfhaaSSt
import Derived.BigRegion
namespace Go.Proofs.Ytfkijdlggdgfhaa
open Go.RowKit Go.Sort

set_option maxRecDepth 100000 in
set_option maxHeartbeats 2000000 in
theorem told_any (w : World) (b : Nat) (v : Vr) (hv : w.heap[b]? = some (.cells (cellsV v) 82 (0, 0))) :
    Calls Try.prog 42 #[ptr b] w fun e w' => e = .returned (toldV v) ∧ Below w.heap.size w w' := by
  obtain ⟨vb, vn, ⟨k1, k2⟩, ba, ix, fl, ci, cv⟩ := v
  have HB : Hid (∀ o, Below w.heap.size w (w.alloc o).drew) := fun o => ⟨rfl, rfl, rfl, by simp, fun G hG => heap_alloc_old _ _ hG⟩
  have HA : Hid (∀ o, (w.alloc o).heap[b]? = some (.cells #[.int .i64 ba, .int .i64 ix, .int .i64 vn, .int .i64 k1, .int .i64 k2, .bool fl, .bool ci, .int .i64 cv] 82 (0, 0))) := fun o => (heap_alloc_old _ _ (blk_lt hv)).trans hv
  have a0 : ∀ o, (w.alloc o).cell? ⟨b, 0, none⟩ = some (.int .i64 ba) := fun o => by simp [World.cell?, HA.out o]
  have a1 : ∀ o, (w.alloc o).cell? ⟨b, 1, none⟩ = some (.int .i64 ix) := fun o => by simp [World.cell?, HA.out o]
  have a5 : ∀ o, (w.alloc o).cell? ⟨b, 5, none⟩ = some (.bool fl) := fun o => by simp [World.cell?, HA.out o]
  have a6 : ∀ o, (w.alloc o).cell? ⟨b, 6, none⟩ = some (.bool ci) := fun o => by simp [World.cell?, HA.out o]
  have a7 : ∀ o, (w.alloc o).cell? ⟨b, 7, none⟩ = some (.int .i64 cv) := fun o => by simp [World.cell?, HA.out o]
  clear hv
  go_enter Try.func42, Try.ntmps42
  go_wp2_with fail
  go_region
  go_wp2
  refine bodyPost_ret (v := .agg #[.int .i64 ba, .int .i64 ix, .bool fl, .bool ci, .int .i64 cv]) (by simp [results, Try.results42, go_sem]) rfl ?_
  exact ⟨rfl, HB.out _⟩
/-- block b is a version's box, as it is told -/
def RV (W : World) (b : Nat) (c0 c1 c2 c3 c4 : Value) : Prop := W.heap[b]? = some (.cells #[c0, c1, c2, c3, c4] 61 (0, 0))
abbrev e5 (W : World) (b : Nat) (c0 c1 c2 c3 c4 : Value) : World := ((((W.setCell ⟨b, 0, none⟩ c0).setCell ⟨b, 1, none⟩ c1).setCell ⟨b, 2, none⟩ c2).setCell ⟨b, 3, none⟩ c3).setCell ⟨b, 4, none⟩ c4
theorem RV.five {W : World} {b : Nat} {d0 d1 d2 d3 d4 : Value} (h : RV W b d0 d1 d2 d3 d4) (c0 c1 c2 c3 c4 : Value) : RV (e5 W b c0 c1 c2 c3 c4) b c0 c1 c2 c3 c4 := by
  have h0 := heap_setCell_same W b 0 _ _ c0 h
  have h1 := heap_setCell_same _ b 1 _ _ c1 h0
  have h2 := heap_setCell_same _ b 2 _ _ c2 h1
  have h3 := heap_setCell_same _ b 3 _ _ c3 h2
  have h4 := heap_setCell_same _ b 4 _ _ c4 h3
  exact h4
theorem RV.cells {W : World} {b : Nat} {c0 c1 c2 c3 c4 : Value} (h : RV W b c0 c1 c2 c3 c4) :
    W.cell? ⟨b, 0, none⟩ = some c0 ∧ W.cell? ⟨b, 1, none⟩ = some c1 ∧ W.cell? ⟨b, 2, none⟩ = some c2 ∧ W.cell? ⟨b, 3, none⟩ = some c3 ∧ W.cell? ⟨b, 4, none⟩ = some c4 := by
  refine ⟨?_, ?_, ?_, ?_, ?_⟩ <;> simp [World.cell?, show W.heap[b]? = _ from h]
theorem RV.frozen {W : World} {b : Nat} {c0 c1 c2 c3 c4 : Value} (h : RV W b c0 c1 c2 c3 c4) (i : Nat) : W.frozen? ⟨b, i, none⟩ = false := frozen_of_row W b i _ _ h
theorem bset1 {B : Nat} {W W1 : World} (h : Below B W W1) (p : Addr) (v : Value) (hp : B ≤ p.block) : Below B W (W1.setCell p v) :=
  ⟨h.os, h.tape, h.output, by simpa using h.size, fun k hk => (heap_setCell_other W1 p k v (by omega)).trans (h.block k hk)⟩
theorem below_e5 {W0 W : World} {C b : Nat} (h : Below C W0 W) (hb : C ≤ b) (c0 c1 c2 c3 c4 : Value) : Below C W0 (e5 W b c0 c1 c2 c3 c4) :=
  bset1 (bset1 (bset1 (bset1 (bset1 h _ _ hb) _ _ hb) _ _ hb) _ _ hb) _ _ hb
theorem load_ver (W : World) (b : Nat) (c0 c1 c2 c3 c4 : Value) (h : RV W b c0 c1 c2 c3 c4) : (loadVar 61 ⟨b, 0, none⟩).run Try.prog W = .ok (.agg #[c0, c1, c2, c3, c4]) W := by
  obtain ⟨q0, q1, q2, q3, q4⟩ := h.cells
  simp [go_sem, q0, q1, q2, q3, q4]
/-- no version -/
def v0 : Vr := ⟨0, 0, (0, 0), 0, 0, false, false, 0⟩
def lkV : Option Vr → Value × Int
  | none => (toldV v0, 93)
  | some v => (toldV v, 0)
set_option maxRecDepth 100000 in
set_option maxHeartbeats 2000000 in
theorem look_any (w : World) (S V D M L P : Nat) (hf : Value) (cap last : Int) (vs : List Vr) (es : List En) (R : K → Nat × Nat × Nat) (n : Int) (h : SA w S V D M L P hf cap last vs es R) (hn : In64 n) :
    Calls Try.prog 21 #[ptr S, .int .i64 n] w fun e w' => e = .returned (.tuple #[(lkV (fv vs n)).1, .int .i64 (lkV (fv vs n)).2]) ∧ Below w.heap.size w w' := by
  have HB : Hid (∀ o, Below w.heap.size w (w.alloc o)) := fun o => (Below.refl _ _).alloc (Nat.le_refl _) _
  have HS : Hid (∀ o, SA (w.alloc o) S V D M L P hf cap last vs es R) := fun o => h.kept (HB.out o)
  have HC : ∀ o, (w.alloc o).cell? ⟨S, 3, none⟩ = some (.map (some V)) := fun o => (HS.out o).cells.2.2.2.1
  have hl : ∀ o, (Instr.lookup 67 (.map (some V)) (.int .i64 n) false).run Try.prog (w.alloc o) = .ok (pf (fv vs n)) (w.alloc o) := fun o => (HS.out o).look hn
  clear h
  go_enter Try.func21, Try.ntmps21
  cases hc : fv vs n with
  | none =>
    rw [hc] at hl
    simp only [pf] at hl
    go_wp2
    refine bodyPost_ret (v := .tuple #[toldV v0, .int .i64 93]) (by simp [results, Try.results21, go_sem, v0]) rfl ?_
    exact ⟨rfl, HB.out _⟩
  | some v =>
    rw [hc] at hl
    have HV : Hid (∀ o, (w.alloc o).heap[v.b]? = some (.cells (cellsV v) 82 (0, 0))) := fun o => (HS.out o).vb v (fv_some hc).1
    clear hc
    simp only [pf] at hl
    go_wp2_with fail
    refine (told_any _ v.b v (HV.out _)).mono ?_
    rintro e w2 ⟨rfl, hb2⟩
    have HZ : Hid (RV w2 w.heap.size (.int .i64 0) (.int .i64 0) (.bool false) (.bool false) (.int .i64 0)) := (hb2.block _ (by simp)).trans (heap_alloc_new _ _ rfl)
    have HB2 : Hid (Below w.heap.size w w2) := (HB.out _).trans (hb2.mono (HB.out _).size)
    obtain ⟨z0, z1, z2, z3, z4⟩ := HZ.out.cells
    have f0 := HZ.out.frozen 0
    have f1 := HZ.out.frozen 1
    have f2 := HZ.out.frozen 2
    have f3 := HZ.out.frozen 3
    have f4 := HZ.out.frozen 4
    have HF5 : Hid (Below w.heap.size w (e5 w2 w.heap.size (.int .i64 v.ba) (.int .i64 v.ix) (.bool v.fl) (.bool v.ci) (.int .i64 v.cv))) := below_e5 HB2.out (Nat.le_refl _) _ _ _ _ _
    have hld := load_ver _ _ _ _ _ _ _ (HZ.out.five (.int .i64 v.ba) (.int .i64 v.ix) (.bool v.fl) (.bool v.ci) (.int .i64 v.cv))
    clear hb2 HB2 HZ HV hl HC HS
    go_wp2
    refine bodyPost_ret (v := .tuple #[toldV v, .int .i64 0]) (by simp [results, Try.results21, asAddr, hld]) rfl ?_
    exact ⟨rfl, HF5.out⟩
end Go.Proofs.Ytfkijdlggdgfhaa
