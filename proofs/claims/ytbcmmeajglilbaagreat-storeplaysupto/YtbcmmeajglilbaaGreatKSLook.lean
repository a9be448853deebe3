import Derived.Test.YtbcmmeajglilbaaGreatKBytes
import Derived.BigRegion
import Derived.Deep.AppendSrc
import Derived.Test.YtbcmmeajglilbaaGreatKKMath
/-
  told, Look, KeyOf; fill, Fill.
-/
namespace Go.Proofs.YtbcmmeajglilbaaGreat
open Go.RowKit Go.Sort

set_option maxRecDepth 100000 in
set_option maxHeartbeats 2000000 in
theorem told_any (w : World) (b : Nat) (v : Vr) (hv : w.heap[b]? = some (.cells (cellsV v) 102 (0, 0))) :
    Calls Tryz.prog 56 #[ptr b] w fun e w' => e = .returned (toldV v) ∧ Below w.heap.size w w' := by
  obtain ⟨vb, vn, ⟨k1, k2⟩, ba, ix, fl, ci, cv⟩ := v
  have HB : Hid (∀ o, Below w.heap.size w (w.alloc o).drew) := fun o => ⟨rfl, rfl, rfl, by simp, fun G hG => heap_alloc_old _ _ hG⟩
  have HA : Hid (∀ o, (w.alloc o).heap[b]? = some (.cells #[.int .i64 ba, .int .i64 ix, .int .i64 vn, .int .i64 k1, .int .i64 k2, .bool fl, .bool ci, .int .i64 cv] 102 (0, 0))) := fun o => (heap_alloc_old _ _ (blk_lt hv)).trans hv
  have a0 : ∀ o, (w.alloc o).cell? ⟨b, 0, none⟩ = some (.int .i64 ba) := fun o => by simp [World.cell?, HA.out o]
  have a1 : ∀ o, (w.alloc o).cell? ⟨b, 1, none⟩ = some (.int .i64 ix) := fun o => by simp [World.cell?, HA.out o]
  have a5 : ∀ o, (w.alloc o).cell? ⟨b, 5, none⟩ = some (.bool fl) := fun o => by simp [World.cell?, HA.out o]
  have a6 : ∀ o, (w.alloc o).cell? ⟨b, 6, none⟩ = some (.bool ci) := fun o => by simp [World.cell?, HA.out o]
  have a7 : ∀ o, (w.alloc o).cell? ⟨b, 7, none⟩ = some (.int .i64 cv) := fun o => by simp [World.cell?, HA.out o]
  clear hv
  go_enter Tryz.func56, Tryz.ntmps56
  go_wp2_with fail
  go_region
  go_wp2
  refine bodyPost_ret (v := .agg #[.int .i64 ba, .int .i64 ix, .bool fl, .bool ci, .int .i64 cv]) (by simp [results, Tryz.results56, go_sem]) rfl ?_
  exact ⟨rfl, HB.out _⟩
/-- block b is a version's box, as it is told -/
def RV (W : World) (b : Nat) (c0 c1 c2 c3 c4 : Value) : Prop := W.heap[b]? = some (.cells #[c0, c1, c2, c3, c4] 71 (0, 0))
abbrev e5 (W : World) (b : Nat) (c0 c1 c2 c3 c4 : Value) : World := ((((W.setCell ⟨b, 0, none⟩ c0).setCell ⟨b, 1, none⟩ c1).setCell ⟨b, 2, none⟩ c2).setCell ⟨b, 3, none⟩ c3).setCell ⟨b, 4, none⟩ c4
theorem RV.five {W : World} {b : Nat} {d0 d1 d2 d3 d4 : Value} (h : RV W b d0 d1 d2 d3 d4) (c0 c1 c2 c3 c4 : Value) : RV (e5 W b c0 c1 c2 c3 c4) b c0 c1 c2 c3 c4 := by
  have h0 := heap_setCell_same W b 0 _ _ c0 h
  have h1 := heap_setCell_same _ b 1 _ _ c1 h0
  have h2 := heap_setCell_same _ b 2 _ _ c2 h1
  have h3 := heap_setCell_same _ b 3 _ _ c3 h2
  have h4 := heap_setCell_same _ b 4 _ _ c4 h3
  exact h4
theorem RV.cells {W : World} {b : Nat} {c0 c1 c2 c3 c4 : Value} (h : RV W b c0 c1 c2 c3 c4) :
    W.cell? ⟨b, 0, none⟩ = some c0 ∧ W.cell? ⟨b, 1, none⟩ = some c1 ∧ W.cell? ⟨b, 2, none⟩ = some c2 ∧ W.cell? ⟨b, 3, none⟩ = some c3 ∧ W.cell? ⟨b, 4, none⟩ = some c4 := by
  refine ⟨?_, ?_, ?_, ?_, ?_⟩ <;> simp [World.cell?, show W.heap[b]? = _ from h]
theorem RV.frozen {W : World} {b : Nat} {c0 c1 c2 c3 c4 : Value} (h : RV W b c0 c1 c2 c3 c4) (i : Nat) : W.frozen? ⟨b, i, none⟩ = false := frozen_of_row W b i _ _ h
theorem bset1 {B : Nat} {W W1 : World} (h : Below B W W1) (p : Addr) (v : Value) (hp : B ≤ p.block) : Below B W (W1.setCell p v) :=
  ⟨h.os, h.tape, h.output, by simpa using h.size, fun k hk => (heap_setCell_other W1 p k v (by omega)).trans (h.block k hk)⟩
theorem below_e5 {W0 W : World} {C b : Nat} (h : Below C W0 W) (hb : C ≤ b) (c0 c1 c2 c3 c4 : Value) : Below C W0 (e5 W b c0 c1 c2 c3 c4) :=
  bset1 (bset1 (bset1 (bset1 (bset1 h _ _ hb) _ _ hb) _ _ hb) _ _ hb) _ _ hb
theorem load_ver (W : World) (b : Nat) (c0 c1 c2 c3 c4 : Value) (h : RV W b c0 c1 c2 c3 c4) : (loadVar 71 ⟨b, 0, none⟩).run Tryz.prog W = .ok (.agg #[c0, c1, c2, c3, c4]) W := by
  obtain ⟨q0, q1, q2, q3, q4⟩ := h.cells
  simp [go_sem, q0, q1, q2, q3, q4]
/-- no version -/
def v0 : Vr := ⟨0, 0, (0, 0), 0, 0, false, false, 0⟩
def lkV : Option Vr → Value × Int
  | none => (toldV v0, 93)
  | some v => (toldV v, 0)
set_option maxRecDepth 100000 in
set_option maxHeartbeats 2000000 in
theorem look_any (w : World) (S V D M L P : Nat) (hf : Value) (cap last : Int) (vs : List Vr) (es : List En) (R : K → Nat × Nat × Nat) (n : Int) (h : SA w S V D M L P hf cap last vs es R) (hn : In64 n) :
    Calls Tryz.prog 18 #[ptr S, .int .i64 n] w fun e w' => e = .returned (.tuple #[(lkV (fv vs n)).1, .int .i64 (lkV (fv vs n)).2]) ∧ Below w.heap.size w w' := by
  have HB : Hid (∀ o, Below w.heap.size w (w.alloc o)) := fun o => (Below.refl _ _).alloc (Nat.le_refl _) _
  have HS : Hid (∀ o, SA (w.alloc o) S V D M L P hf cap last vs es R) := fun o => h.kept (HB.out o)
  have HC : ∀ o, (w.alloc o).cell? ⟨S, 3, none⟩ = some (.map (some V)) := fun o => (HS.out o).cells.2.2.2.1
  have hl : ∀ o, (Instr.lookup 59 (.map (some V)) (.int .i64 n) false).run Tryz.prog (w.alloc o) = .ok (pf (fv vs n)) (w.alloc o) := fun o => (HS.out o).look hn
  clear h
  go_enter Tryz.func18, Tryz.ntmps18
  cases hc : fv vs n with
  | none =>
    rw [hc] at hl
    simp only [pf] at hl
    go_wp2
    refine bodyPost_ret (v := .tuple #[toldV v0, .int .i64 93]) (by simp [results, Tryz.results18, go_sem, v0]) rfl ?_
    exact ⟨rfl, HB.out _⟩
  | some v =>
    rw [hc] at hl
    have HV : Hid (∀ o, (w.alloc o).heap[v.b]? = some (.cells (cellsV v) 102 (0, 0))) := fun o => (HS.out o).vb v (fv_some hc).1
    clear hc
    simp only [pf] at hl
    go_wp2_with fail
    refine (told_any _ v.b v (HV.out _)).mono ?_
    rintro e w2 ⟨rfl, hb2⟩
    have HZ : Hid (RV w2 w.heap.size (.int .i64 0) (.int .i64 0) (.bool false) (.bool false) (.int .i64 0)) := (hb2.block _ (by simp)).trans (heap_alloc_new _ _ rfl)
    have HB2 : Hid (Below w.heap.size w w2) := (HB.out _).trans (hb2.mono (HB.out _).size)
    obtain ⟨z0, z1, z2, z3, z4⟩ := HZ.out.cells
    have f0 := HZ.out.frozen 0
    have f1 := HZ.out.frozen 1
    have f2 := HZ.out.frozen 2
    have f3 := HZ.out.frozen 3
    have f4 := HZ.out.frozen 4
    have HF5 : Hid (Below w.heap.size w (e5 w2 w.heap.size (.int .i64 v.ba) (.int .i64 v.ix) (.bool v.fl) (.bool v.ci) (.int .i64 v.cv))) := below_e5 HB2.out (Nat.le_refl _) _ _ _ _ _
    have hld := load_ver _ _ _ _ _ _ _ (HZ.out.five (.int .i64 v.ba) (.int .i64 v.ix) (.bool v.fl) (.bool v.ci) (.int .i64 v.cv))
    clear hb2 HB2 HZ HV hl HC HS
    go_wp2
    refine bodyPost_ret (v := .tuple #[toldV v, .int .i64 0]) (by simp [results, Tryz.results18, asAddr, hld]) rfl ?_
    exact ⟨rfl, HF5.out⟩
end Go.Proofs.YtbcmmeajglilbaaGreat
/-
  KeyOf, later; fill, Fill.
-/
namespace Go.Proofs.YtbcmmeajglilbaaGreat
open Go.RowKit Go.Sort

def koV : Option Vr → K × Int
  | none => ((0, 0), 93)
  | some v => (v.k, 0)
set_option maxRecDepth 100000 in
set_option maxHeartbeats 2000000 in
theorem keyOf_any (w : World) (S V D M L P : Nat) (hf : Value) (cap last : Int) (vs : List Vr) (es : List En) (R : K → Nat × Nat × Nat) (n : Int) (h : SA w S V D M L P hf cap last vs es R) (hn : In64 n) :
    Calls Tryz.prog 20 #[ptr S, .int .i64 n] w fun e w' => e = .returned (.tuple #[kv (koV (fv vs n)).1, .int .i64 (koV (fv vs n)).2]) ∧ Below w.heap.size w w' := by
  have HB : Hid (∀ o, Below w.heap.size w (w.alloc o)) := fun o => (Below.refl _ _).alloc (Nat.le_refl _) _
  have HS : Hid (∀ o, SA (w.alloc o) S V D M L P hf cap last vs es R) := fun o => h.kept (HB.out o)
  have HC : ∀ o, (w.alloc o).cell? ⟨S, 3, none⟩ = some (.map (some V)) := fun o => (HS.out o).cells.2.2.2.1
  have hl : ∀ o, (Instr.lookup 59 (.map (some V)) (.int .i64 n) false).run Tryz.prog (w.alloc o) = .ok (pf (fv vs n)) (w.alloc o) := fun o => (HS.out o).look hn
  clear h
  go_enter Tryz.func20, Tryz.ntmps20
  cases hc : fv vs n with
  | none =>
    rw [hc] at hl
    simp only [pf] at hl
    go_wp2
    refine bodyPost_ret (v := .tuple #[.agg #[.int .i64 0, .int .i64 0], .int .i64 93]) (by simp [results, Tryz.results20, go_sem]) rfl ?_
    exact ⟨rfl, HB.out _⟩
  | some v =>
    rw [hc] at hl
    have c3 : ∀ o, (w.alloc o).cell? ⟨v.b, 3, none⟩ = some (.int .i64 v.k.1) := fun o => ((HS.out o).vcells (fv_some hc).1).2.2.2.1
    have c4 : ∀ o, (w.alloc o).cell? ⟨v.b, 4, none⟩ = some (.int .i64 v.k.2) := fun o => ((HS.out o).vcells (fv_some hc).1).2.2.2.2.1
    clear hc
    simp only [pf] at hl
    go_wp2
    refine bodyPost_ret (v := .tuple #[kv v.k, .int .i64 0]) (by simp [results, Tryz.results20, go_sem]) rfl ?_
    exact ⟨rfl, HB.out _⟩
instance (a b : Vr) : Decidable (later a b) := by unfold later; infer_instance
set_option maxRecDepth 100000 in
set_option maxHeartbeats 2000000 in
theorem later_any (w : World) (a b : Nat) (x y : Vr) (ha : w.heap[a]? = some (.cells (cellsV x) 102 (0, 0))) (hb : w.heap[b]? = some (.cells (cellsV y) 102 (0, 0))) :
    Calls Tryz.prog 68 #[ptr a, ptr b] w fun e w' => e = .returned (.bool (decide (later x y))) ∧ ∃ q, w' = w.drewN q := by
  have a0 : w.cell? ⟨a, 0, none⟩ = some (.int .i64 x.ba) := by simp [World.cell?, ha, cellsV]
  have a1 : w.cell? ⟨a, 1, none⟩ = some (.int .i64 x.ix) := by simp [World.cell?, ha, cellsV]
  have b0 : w.cell? ⟨b, 0, none⟩ = some (.int .i64 y.ba) := by simp [World.cell?, hb, cellsV]
  have b1 : w.cell? ⟨b, 1, none⟩ = some (.int .i64 y.ix) := by simp [World.cell?, hb, cellsV]
  clear ha hb
  have HD : Hid (decide (later x y) = (decide (y.ba < x.ba) || (decide (y.ba = x.ba) && decide (y.ix < x.ix)))) := by
    show decide (later x y) = _
    rw [Bool.eq_iff_iff]
    simp only [decide_eq_true_eq, Bool.or_eq_true, Bool.and_eq_true]
    exact Iff.rfl
  rw [HD.out]
  clear HD
  generalize x.ba = p at *
  generalize x.ix = q at *
  generalize y.ba = r at *
  generalize y.ix = s at *
  by_cases h1 : r < p
  · have h1b : decide (r < p) = true := by simpa using h1
    rw [h1b]
    go_enter Tryz.func68, Tryz.ntmps68
    go_wp2_with fail
    go_quiet (fail)
    go_wp2
    go_ret
    exact ⟨rfl, nq, rfl⟩
  · have h1b : decide (r < p) = false := by simpa using h1
    rw [h1b]
    by_cases h2 : p = r
    · subst h2
      cases h3 : decide (s < q) with
      | true =>
        have h3' := of_decide_eq_true h3
        go_enter Tryz.func68, Tryz.ntmps68
        go_wp2_with fail
        go_quiet (fail)
        go_wp2
        go_ret
        exact ⟨by simp, nq, rfl⟩
      | false =>
        have h3' := of_decide_eq_false h3
        go_enter Tryz.func68, Tryz.ntmps68
        go_wp2_with fail
        go_quiet (fail)
        go_wp2
        go_ret
        exact ⟨by simp, nq, rfl⟩
    · have h2b : decide (r = p) = false := by simpa using fun e => h2 e.symm
      have h2c : (p == r) = false := by simpa using h2
      rw [h2b]
      go_enter Tryz.func68, Tryz.ntmps68
      go_wp2_with fail
      go_quiet (fail)
      go_wp2
      go_ret
      exact ⟨by simp, nq, rfl⟩
/-- a version that is filled -/
def fillV (v : Vr) (ci : Bool) (cv : Int) : Vr := { v with fl := true, ci := if ci then true else v.ci, cv := if ci then cv else v.cv }
theorem cellsV_fl (v : Vr) : (cellsV v).setIfInBounds 5 (.bool true) = cellsV { v with fl := true } := by simp [cellsV]
theorem cellsV_cell (v : Vr) (ci : Bool) (cv : Int) : ((cellsV v).setIfInBounds 6 (.bool ci)).setIfInBounds 7 (.int .i64 cv) = cellsV { v with ci := ci, cv := cv } := by simp [cellsV]
set_option maxRecDepth 100000 in
set_option maxHeartbeats 2000000 in
theorem vfill_any (w : World) (b : Nat) (v : Vr) (ci : Bool) (cv : Int) (h : w.heap[b]? = some (.cells (cellsV v) 102 (0, 0))) :
    Calls Tryz.prog 51 #[ptr b, .agg #[.bool ci, .int .i64 cv]] w fun e w' => e = .returned (.tuple #[]) ∧ w'.heap[b]? = some (.cells (cellsV (fillV v ci cv)) 102 (0, 0)) ∧ Fr (fun k => k = b) w w' := by
  have hbl := blk_lt h
  have c5 : w.cell? ⟨b, 5, none⟩ = some (.bool v.fl) := by simp [World.cell?, h, cellsV]
  have f5 : w.frozen? ⟨b, 5, none⟩ = false := frozen_of_row _ _ _ _ _ h
  have h5 : (w.setCell ⟨b, 5, none⟩ (.bool true)).heap[b]? = some (.cells (cellsV { v with fl := true }) 102 (0, 0)) := by rw [blk_set _ h, cellsV_fl]
  have c6 : (w.setCell ⟨b, 5, none⟩ (.bool true)).cell? ⟨b, 6, none⟩ = some (.bool v.ci) := by simp [World.cell?, h5, cellsV]
  have f6 : (w.setCell ⟨b, 5, none⟩ (.bool true)).frozen? ⟨b, 6, none⟩ = false := frozen_of_row _ _ _ _ _ h5
  have h6 := blk_set (i := 6) (.bool ci) h5
  have c7 : ((w.setCell ⟨b, 5, none⟩ (.bool true)).setCell ⟨b, 6, none⟩ (.bool ci)).cell? ⟨b, 7, none⟩ = some (.int .i64 v.cv) := by simp [World.cell?, h6, cellsV]
  have f7 : (w.setCell ⟨b, 5, none⟩ (.bool true)).frozen? ⟨b, 7, none⟩ = false := frozen_of_row _ _ _ _ _ h5
  have hne : b ≠ w.heap.size := by omega
  have c5' : ∀ o, (w.alloc o).cell? ⟨b, 5, none⟩ = some (.bool v.fl) := fun o => Lib.cell?_alloc_some _ c5
  have HF5 : Hid (Fr (fun k => k = b) w (w.setCell ⟨b, 5, none⟩ (.bool true))) := (Fr.refl _ _).set _ _ (.inr rfl)
  have HF7 : Hid (Fr (fun k => k = b) w (((w.setCell ⟨b, 5, none⟩ (.bool true)).setCell ⟨b, 6, none⟩ (.bool ci)).setCell ⟨b, 7, none⟩ (.int .i64 cv))) := (HF5.out.set _ _ (.inr rfl)).set _ _ (.inr rfl)
  have HE5 : Hid ((w.setCell ⟨b, 5, none⟩ (.bool true)).heap[b]? = some (.cells (cellsV { v with fl := true }) 102 (0, 0))) := h5
  have HE7 : Hid ((((w.setCell ⟨b, 5, none⟩ (.bool true)).setCell ⟨b, 6, none⟩ (.bool ci)).setCell ⟨b, 7, none⟩ (.int .i64 cv)).heap[b]? = some (.cells (cellsV { v with fl := true, ci := ci, cv := cv }) 102 (0, 0))) := by
    show _ = _
    rw [blk_set _ h6, cellsV_cell]
  have HAl : Hid (∀ (W : World) o, b < W.heap.size → Fr (fun k => k = b) w W → Fr (fun k => k = b) w (W.alloc o) ∧ (W.alloc o).heap[b]? = W.heap[b]?) := fun W o hl hW => ⟨hW.trans (T := fun k => k = b) (Fr.ofBelow ((Below.refl _ _).alloc (Nat.le_refl _) _)) (fun _ _ h => h), heap_alloc_old _ _ hl⟩
  clear h h5 h6
  go_enter Tryz.func51, Tryz.ntmps51
  cases ci with
  | false =>
    go_wp2
    go_end0
    obtain ⟨x1, x2⟩ := HAl.out _ (.cells #[.bool false, .int .i64 cv] 43) (blk_lt HE5.out) HF5.out
    exact ⟨rfl, x2.trans HE5.out, x1⟩
  | true =>
    go_wp2
    go_end0
    obtain ⟨x1, x2⟩ := HAl.out _ (.cells #[.bool true, .int .i64 cv] 43) (blk_lt HE7.out) HF7.out
    exact ⟨rfl, x2.trans HE7.out, x1⟩
end Go.Proofs.YtbcmmeajglilbaaGreat
/-
  A CHAIN's LIST; newest, add.
-/
namespace Go.Proofs.YtbcmmeajglilbaaGreat
open Go.RowKit Go.Sort

/-- a list of versions in block g, from off on, with room for c -/
structure RwV (w : World) (g off c : Nat) (xs : List Nat) : Prop where
  row : ∃ cur, w.heap[g]? = some (.cells cur 98 (0, 0)) ∧ cur.size = off + c ∧ ∀ j (h : j < xs.length), cur[off + j]? = some (ptr xs[j])
  le : xs.length ≤ c
  cm : c ≤ 9223372036854775807
theorem RwV.same {w w' : World} {g off c : Nat} {xs : List Nat} (h : RwV w g off c xs) (hs : w'.heap[g]? = w.heap[g]?) : RwV w' g off c xs := by
  obtain ⟨⟨cur, h1, h2⟩, h3, h4⟩ := h
  exact ⟨⟨cur, hs.trans h1, h2⟩, h3, h4⟩
theorem RwV.cell {w : World} {g off c : Nat} {xs : List Nat} (h : RwV w g off c xs) {j : Nat} (hj : j < xs.length) : w.cell? ⟨g, off + j, none⟩ = some (ptr xs[j]) := by
  obtain ⟨⟨cur, h1, _, h2⟩, _⟩ := h
  rw [World.cell?, h1]
  exact h2 j hj
theorem SA.rwv {w : World} {S V D M L P : Nat} {hf : Value} {cap last : Int} {vs : List Vr} {es : List En} {R : K → Nat × Nat × Nat} (h : SA w S V D M L P hf cap last vs es R) {e : En} (he : e ∈ es) : RwV w (R e.k).1 (R e.k).2.1 (R e.k).2.2 ((ofK e.k vs).map Vr.b) := by
  obtain ⟨cur, h1, h2, h3⟩ := h.rw e he
  refine ⟨⟨cur, h1, h2, fun j hj => ?_⟩, by rw [List.length_map]; exact h.rl e he, h.cm e he⟩
  rw [List.length_map] at hj
  rw [h3 j hj, List.getElem_map]
set_option maxRecDepth 100000 in
set_option maxHeartbeats 1000000 in
theorem newest_any (w : World) (c g off cc : Nat) (xs : List Nat) (b : Nat) (hc : w.heap[c]? = some (.cells #[.slice (some ⟨g, off, none⟩) (xs ++ [b]).length cc] 117 (0, 0))) (hr : RwV w g off cc (xs ++ [b])) (hm : xs.length ≤ 1000000000) :
    Calls Tryz.prog 60 #[ptr c] w fun e w' => e = .returned (ptr b) ∧ ∃ q, w' = w.drewN q := by
  have c0 : w.cell? ⟨c, 0, none⟩ = some (.slice (some ⟨g, off, none⟩) (xs.length + 1) cc) := by rw [World.cell?, hc]; simp
  have r0 : w.cell? ⟨g, off + xs.length, none⟩ = some (ptr b) := by
    have := hr.cell (j := xs.length) (by simp)
    simpa using this
  clear hc hr
  generalize xs.length = n at *
  have hn : (((n + 1 : Nat) : Int) - 1) = (n : Int) := by omega
  have hlt : n < n + 1 := by omega
  go_enter Tryz.func60, Tryz.ntmps60
  go_wp2_with fail
  go_quiet (fail)
  go_wp2
  go_ret
  exact ⟨rfl, nq, rfl⟩
theorem infoVp : (Tryz.prog.info? 98).map (fun i => (i.zero, i.size, i.bytes)) = some (some (.pointer none), 1, 8) := by kernel_rfl
/-- one more at a list's end: in its room, or in a new row -/
theorem append_P (w : World) (ty : TypeId) (v : Value) (xs : List Nat) (b : Nat) (ab : Nat) (hv : (v = .slice none 0 0 ∧ xs = []) ∨ ∃ g off c, v = .slice (some ⟨g, off, none⟩) xs.length c ∧ RwV w g off c xs) (ha : w.cell? ⟨ab, 0, none⟩ = some (ptr b)) (hm : xs.length + 1 ≤ 1000000000) :
    ∃ g off c w', (Builtin.append_ #[115, 115] ty #[v, .slice (some ⟨ab, 0, none⟩) 1 1]).run Tryz.prog w = .ok (.slice (some ⟨g, off, none⟩) (xs.length + 1) c) w' ∧ RwV w' g off c (xs ++ [b]) ∧
      (((∃ n c, v = .slice (some ⟨g, off, none⟩) n c) ∧ w.grownBy w' (some g)) ∨ (g = w.heap.size ∧ w.grownBy w' none)) := by
  obtain ⟨i0, hi, hz0, hz1, hz2⟩ := info_parts infoVp
  have hnews : ∀ j u, ([ptr b] : List Value)[j]? = some u → w.cell? ((⟨ab, 0, none⟩ : Addr).add j) = some u := by
    intro j u hu
    rw [addr_add]
    cases j with
    | zero => simp at hu; subst hu; exact ha
    | succ j => simp at hu
  rcases hv with ⟨rfl, rfl⟩ | ⟨g, off, c, rfl, ⟨cur, hg, hsz, hat⟩, hle, hcm⟩
  · have hr := run_append_nil (P := Tryz.prog) w 115 ty 98 i0 (.pointer none) Tryz.underlying115 hi hz0 ⟨ab, 0, none⟩ 1 1 [ptr b] (by rw [hz1]; rfl) hnews (by omega) (by omega) (by rw [hz2]; omega)
    refine ⟨w.heap.size, 0, grownCap w 1 0 98, _, hr, ⟨⟨_, heap_alloc_new (w := w.drew) _ _ rfl, ?_, fun j hj => ?_⟩, ?_, ?_⟩, .inr ⟨rfl, rfl, rfl, rfl, by simp, fun k hk _ => Go.heap_alloc_old w.drew _ hk⟩⟩
    · have hge := grownCap_ge w 1 0 98
      simp [size_zeroCells, Value.cells]
      omega
    · obtain rfl : j = 0 := by simp at hj; omega
      rw [Nat.zero_add, Array.getElem?_append_left (by simp)]
      simp
    · have hge := grownCap_ge w 1 0 98
      simpa using hge
    · exact grownCap_le_maxLen w 1 0 98 (by unfold maxLen; omega)
  · by_cases hroom : xs.length + 1 ≤ c
    · have hr := run_append_room_src (P := Tryz.prog) (w := w) 115 115 ty 98 i0 Tryz.underlying115 hi g off xs.length c (.slice (some ⟨ab, 0, none⟩) 1 1) 1 [ptr b] (Src.ofSlice w Tryz.underlying115 ⟨ab, 0, none⟩ 1 1 [ptr b] (by rw [hz1]; rfl) hnews (by simp [Value.oneCell'])) hroom (fun j hj => ?_) (fun j _ => frozen_of_row _ _ _ _ _ hg)
      · refine ⟨g, off, c, _, hr, ?_, .inl ⟨⟨_, _, rfl⟩, ?_⟩⟩
        · rw [hz1, Nat.mul_one]
          refine ⟨⟨cur.setIfInBounds (off + xs.length) (ptr b), blk_set (i := off + xs.length) (ptr b) hg, by simpa using hsz, fun j hj => ?_⟩, by simpa using hroom, hcm⟩
          by_cases hjx : j < xs.length
          · rw [Array.getElem?_setIfInBounds_ne (by omega), hat j hjx, List.getElem_append_left hjx]
          · obtain rfl : j = xs.length := by simp at hj; omega
            rw [Array.getElem?_setIfInBounds_self, if_pos (by omega)]
            simp
        · rw [hz1, Nat.mul_one]
          exact ⟨rfl, rfl, rfl, by simp [World.setCells], fun k _ hk => heap_setCell_other w ⟨g, off + xs.length, none⟩ k _ (fun e => hk (by rw [e]))⟩
      · simp at hj
        subst hj
        rw [hz1, Nat.mul_one, Nat.add_zero, World.cell?, hg]
        show (cur[off + xs.length]?).isSome = true
        rw [Array.getElem?_eq_getElem (by omega)]
        rfl
    · have hfit : Builtin.nextslicecap (xs.length + 1) c * i0.bytes ≤ 281474976710656 := growslice_fits (by omega) (by rw [hz2]; omega)
      have hr := run_append_grow (P := Tryz.prog) w 115 ty 98 i0 (.pointer none) Tryz.underlying115 hi hz0 ⟨g, off, none⟩ xs.length c (xs.map ptr) (by rw [hz1]; simp) (fun j u hu => ?_) ⟨ab, 0, none⟩ 1 1 [ptr b] (by rw [hz1]; rfl) hnews (by omega) (by omega) hfit
      · refine ⟨w.heap.size, 0, grownCap w (xs.length + 1) c 98, _, hr, ⟨⟨_, heap_alloc_new (w := w.drew) _ _ rfl, ?_, fun j hj => ?_⟩, ?_, ?_⟩, .inr ⟨rfl, rfl, rfl, rfl, by simp, fun k hk _ => Go.heap_alloc_old w.drew _ hk⟩⟩
        · have hge := grownCap_ge w (xs.length + 1) c 98
          simp [size_zeroCells, Value.cells]
          omega
        · rw [Nat.zero_add, Array.getElem?_append_left (by simpa using hj)]
          by_cases hjx : j < xs.length
          · rw [Array.getElem?_append_left (by simpa using hjx)]
            simp [hjx]
          · obtain rfl : j = xs.length := by simp at hj; omega
            rw [Array.getElem?_append_right (by simp)]
            simp
        · have hge := grownCap_ge w (xs.length + 1) c 98
          simpa using hge
        · exact grownCap_le_maxLen w (xs.length + 1) c 98 (by unfold maxLen; omega)
      · rw [addr_add]
        obtain ⟨hj, rfl⟩ := List.getElem?_eq_some_iff.1 hu
        rw [List.length_map] at hj
        rw [World.cell?, hg, List.getElem_map]
        exact hat j hj
end Go.Proofs.YtbcmmeajglilbaaGreat
/-
  add: A VERSION BEHIND ALL OTHERS OF ITS CHAIN.
-/
namespace Go.Proofs.YtbcmmeajglilbaaGreat
open Go.RowKit Go.Sort

theorem wpL_app {w : World} {ops : Array Oper} {rest : List Oper} {o : Oper} {a : Act} {Q : Exit → Act → World → Prop} (hgd : o.guard = none) (s x : Operand) (TS : TypeId)
    (ho : o.op = .call { callee := .builtin .append, args := #[s, x], argTypes := #[TS, TS] }) (v u : Value) (hs : a.eval s = v) (hx : a.eval x = u) {post : Value → World → Prop}
    (hr : ∀ ty, ∃ v' w', (Builtin.append_ #[TS, TS] ty #[v, u]).run Tryz.prog w = .ok v' w' ∧ post v' w') (h : ∀ v' w', post v' w' → wpList Tryz.prog ops Q rest (a.put o.dst v') w') : wpList Tryz.prog ops Q (o :: rest) a w := by
  obtain ⟨v', w', hr, h2⟩ := hr o.type
  refine wpList_plain hgd fun K hK' => ?_
  unfold Oper.wp
  simp [execOp, ho, resolve, invoke, builtin, hs, hx, hr, Result.andThen]
  exact hK' _ _ (h v' w' h2)
/-- what add leaves -/
structure Add (w w' : World) (c b : Nat) (ao : Option Addr) (xs : List Nat) (g off cc : Nat) : Prop where
  bx : w'.heap[c]? = some (.cells #[.slice (some ⟨g, off, none⟩) (xs.length + 1) cc] 117 (0, 0))
  rw : RwV w' g off cc (xs ++ [b])
  fr : Fr (fun k => k = c ∨ ao.map Addr.block = some k) w w'
  wh : ao.map Addr.block = some g ∨ w.heap.size ≤ g
set_option maxRecDepth 100000 in
set_option maxHeartbeats 1000000 in
theorem add_any (w : World) (c b : Nat) (ao : Option Addr) (n cc : Nat) (xs : List Nat) (hn : n = xs.length) (hc : w.heap[c]? = some (.cells #[.slice ao n cc] 117 (0, 0))) (hv : (ao = none ∧ cc = 0 ∧ xs = []) ∨ ∃ g off, ao = some ⟨g, off, none⟩ ∧ RwV w g off cc xs) (hm : n + 1 ≤ 1000000000) :
    Calls Tryz.prog 46 #[ptr c, ptr b] w fun e w' => e = .returned (.tuple #[]) ∧ ∃ g off cc', Add w w' c b ao xs g off cc' := by
  subst hn
  have hcl := blk_lt hc
  have HA : Hid (Below w.heap.size w (w.alloc (.cells #[ptr b] 98))) := (Below.refl _ _).alloc (Nat.le_refl _) _
  have c0 : w.cell? ⟨c, 0, none⟩ = some (.slice ao xs.length cc) := by rw [World.cell?, hc]; rfl
  have HAp : Hid (∀ ty, ∃ v' w', (Builtin.append_ #[115, 115] ty #[.slice ao xs.length cc, .slice (some ⟨w.heap.size, 0, none⟩) 1 1]).run Tryz.prog (w.alloc (.cells #[ptr b] 98)) = .ok v' w' ∧
      ∃ g off cc', v' = .slice (some ⟨g, off, none⟩) (xs.length + 1) cc' ∧ RwV w' g off cc' (xs ++ [b]) ∧ w'.cell? ⟨c, 0, none⟩ = some (.slice ao xs.length cc) ∧ w'.frozen? ⟨c, 0, none⟩ = false ∧ w'.heap[c]? = some (.cells #[.slice ao xs.length cc] 117 (0, 0)) ∧ Fr (fun k => k = c ∨ ao.map Addr.block = some k) w w' ∧ (ao.map Addr.block = some g ∨ w.heap.size ≤ g)) := fun ty => by
    have hgc : ∀ {g off}, ao = some ⟨g, off, none⟩ → RwV w g off cc xs → g ≠ c ∧ g < w.heap.size := fun {g off} _ hr => by
      obtain ⟨⟨cur, h1, _⟩, _⟩ := hr
      refine ⟨fun e => ?_, blk_lt h1⟩
      rw [e, hc] at h1
      cases h1
    obtain ⟨g, off, cc', w', hr, hrw, hw⟩ := append_P (w.alloc (.cells #[ptr b] 98)) ty (.slice ao xs.length cc) xs b w.heap.size (by
      rcases hv with ⟨rfl, rfl, rfl⟩ | ⟨g, off, rfl, hr⟩
      · exact .inl ⟨rfl, rfl⟩
      · exact .inr ⟨g, off, cc, rfl, hr.same (HA.out.block g (hgc rfl hr).2)⟩) (by simp) (by omega)
    have hfr : ∀ k, k < w.heap.size → ¬ ao.map Addr.block = some k → w'.heap[k]? = w.heap[k]? := fun k hk hne => by
      rcases hw with ⟨⟨n', c', e⟩, hg⟩ | ⟨_, hg⟩
      · simp only [Value.slice.injEq] at e
        obtain ⟨rfl, _⟩ := e
        exact (hg.block k (by simp; omega) (fun e => hne (by simpa using e.symm))).trans (HA.out.block k hk)
      · exact (hg.block k (by simp; omega) (by simp)).trans (HA.out.block k hk)
    have hcne : ¬ ao.map Addr.block = some c := fun e => by
      rcases hv with ⟨rfl, _⟩ | ⟨g0, off0, rfl, hr0⟩
      · cases e
      · exact (hgc rfl hr0).1 (by simpa using e)
    have hc' : w'.heap[c]? = some (.cells #[.slice ao xs.length cc] 117 (0, 0)) := (hfr c hcl hcne).trans hc
    refine ⟨_, w', hr, g, off, cc', rfl, hrw, by rw [World.cell?, hc']; rfl, frozen_of_row _ _ _ _ _ hc', hc', ?_, ?_⟩
    · have hg' : ∃ r, (w.alloc (.cells #[ptr b] 98)).grownBy w' r := by
        rcases hw with ⟨_, hg⟩ | ⟨_, hg⟩
        · exact ⟨_, hg⟩
        · exact ⟨_, hg⟩
      obtain ⟨r, hg⟩ := hg'
      have hz := hg.size
      simp at hz
      exact ⟨hg.os, hg.tape, hg.output, by omega, fun k hk hS => hfr k hk (fun e => hS (.inr e))⟩
    · rcases hw with ⟨⟨n', c', e⟩, _⟩ | ⟨e, _⟩
      · simp only [Value.slice.injEq] at e
        obtain ⟨rfl, _⟩ := e
        exact .inl rfl
      · right; rw [e]; simp
  clear hv hc
  go_enter Tryz.func46, Tryz.ntmps46
  go_wp2_with (
    at_builtin
    refine wpL_app rfl _ _ 115 rfl (.slice ao xs.length cc) _ rfl rfl HAp.out ?_
    rintro v1 w1 ⟨g, off, cc', rfl, hrw, x1, x2, hx, hfr, hwh⟩
    have HX : Hid (RwV w1 g off cc' (xs ++ [b]) ∧ w1.heap[c]? = some (.cells #[.slice ao xs.length cc] 117 (0, 0)) ∧ Fr (fun k => k = c ∨ ao.map Addr.block = some k) w w1 ∧ (ao.map Addr.block = some g ∨ w.heap.size ≤ g)) := ⟨hrw, hx, hfr, hwh⟩
    clear hrw hx hfr hwh HAp)
  go_end0
  obtain ⟨h1, h2, h3, h4⟩ := HX.out
  refine ⟨rfl, g, off, cc', ?_, h1.same (blk_oth _ rfl (fun e => ?_)), h3.set _ _ (.inr (.inl rfl)), h4⟩
  · rw [blk_set _ h2]; rfl
  · obtain ⟨⟨cur, k1, _⟩, _⟩ := h1
    rw [e, h2] at k1
    cases k1
end Go.Proofs.YtbcmmeajglilbaaGreat
/-
  chainFor: THE CHAIN AT WHOSE HEAD A VERSION MAY STAND, OR WHY IT MAY NOT.
-/
namespace Go.Proofs.YtbcmmeajglilbaaGreat
open Go.RowKit Go.Sort

/-- why a version may not be put in -/
def insE (cap : Int) (vs : List Vr) (x : Vr) : Int :=
  if isKey x.k = false then 20 else if x.ba < 1 ∨ 1099511627776 < x.ba then 80 else if x.ix < 0 ∨ 64 ≤ x.ix then 81 else if cap = (vs.length : Int) then 92 else
  match (ofK x.k vs).getLast? with
  | none => 0
  | some y => if later x y then 0 else 94
theorem SA.none_of {w : World} {S V D M L P : Nat} {hf : Value} {cap last : Int} {vs : List Vr} {es : List En} {R : K → Nat × Nat × Nat} (h : SA w S V D M L P hf cap last vs es R) {k : K} (hk : fd es k = none) : ofK k vs = [] := by
  refine List.filter_eq_nil_iff.2 fun v hv => ?_
  obtain ⟨e, he, hek⟩ := h.all v hv
  have := fd_none hk e he
  simp only [decide_eq_true_eq]
  intro e'
  exact this (hek.trans e')
theorem snoc_of {α : Type} {l : List α} (h : l ≠ []) : ∃ ys y, l = ys ++ [y] := ⟨l.dropLast, l.getLast h, (List.dropLast_concat_getLast h).symm⟩
def ForPost (w : World) (es : List En) (k : K) (E : Int) (e : Ending) (w' : World) : Prop :=
  Below w.heap.size w w' ∧
      ((E ≠ 0 ∧ e = .returned (.tuple #[.pointer none, .int .i64 E])) ∨
       (E = 0 ∧ ((∃ e0, fd es k = some e0 ∧ e = .returned (.tuple #[ptr e0.v, .int .i64 0])) ∨
         (fd es k = none ∧ ∃ c, e = .returned (.tuple #[ptr c, .int .i64 0]) ∧ w.heap.size ≤ c ∧ w'.heap[c]? = some (.cells #[.slice none 0 0] 117 (0, 0))))))
theorem fp_err {w w' : World} {es : List En} {k : K} {E : Int} {e : Ending} (hb : Below w.heap.size w w') (h0 : E ≠ 0) (he : e = .returned (.tuple #[.pointer none, .int .i64 E])) : ForPost w es k E e w' := ⟨hb, .inl ⟨h0, he⟩⟩
theorem fp_old {w w' : World} {es : List En} {k : K} {E : Int} {e : Ending} (hb : Below w.heap.size w w') (h0 : E = 0) {e0 : En} (hf : fd es k = some e0) (he : e = .returned (.tuple #[ptr e0.v, .int .i64 0])) : ForPost w es k E e w' := ⟨hb, .inr ⟨h0, .inl ⟨e0, hf, he⟩⟩⟩
theorem fp_new {w w' : World} {es : List En} {k : K} {E : Int} {e : Ending} (hb : Below w.heap.size w w') (h0 : E = 0) (hf : fd es k = none) {c : Nat} (he : e = .returned (.tuple #[ptr c, .int .i64 0])) (hc : w.heap.size ≤ c) (hx : w'.heap[c]? = some (.cells #[.slice none 0 0] 117 (0, 0))) : ForPost w es k E e w' := ⟨hb, .inr ⟨h0, .inr ⟨hf, c, he, hc, hx⟩⟩⟩
set_option maxRecDepth 100000 in
set_option maxHeartbeats 2000000 in
theorem chainFor_any (w : World) (S V D M L P : Nat) (hf : Value) (cap last : Int) (vs : List Vr) (es : List En) (R : K → Nat × Nat × Nat) (b : Nat) (x : Vr) (h : SA w S V D M L P hf cap last vs es R) (hx : w.heap[b]? = some (.cells (cellsV x) 102 (0, 0))) (hk : KIn x.k) :
    Calls Tryz.prog 45 #[ptr S, ptr b] w fun e w' => ForPost w es x.k (insE cap vs x) e w' := by
  have HX : Hid (∀ W, Below w.heap.size w W → W.heap[b]? = some (.cells (cellsV x) 102 (0, 0))) := fun W hW => (hW.block b (blk_lt hx)).trans hx
  have HS : Hid (∀ W, Below w.heap.size w W → SA W S V D M L P hf cap last vs es R) := fun W hW => h.kept hW
  have HC : Hid (∀ W, Below w.heap.size w W → (W.cell? ⟨b, 0, none⟩ = some (.int .i64 x.ba) ∧ W.cell? ⟨b, 1, none⟩ = some (.int .i64 x.ix) ∧ W.cell? ⟨b, 3, none⟩ = some (.int .i64 x.k.1) ∧ W.cell? ⟨b, 4, none⟩ = some (.int .i64 x.k.2)) ∧ W.cell? ⟨S, 4, none⟩ = some (ptr D)) := fun W hW => by
    have h1 := HX.out W hW
    refine ⟨⟨?_, ?_, ?_, ?_⟩, (HS.out W hW).cells.2.2.2.2⟩ <;> simp [World.cell?, h1, cellsV]
  have HK : Hid (KIn x.k) := hk
  have hlt := h.lt
  clear h hx hk
  obtain ⟨⟨b0, b1, b3, b4⟩, s4⟩ := HC.out w (Below.refl _ _)
  obtain ⟨E, hE⟩ : ∃ E, E = insE cap vs x := ⟨_, rfl⟩
  rw [← hE]
  unfold insE at hE
  have HE : Hid (E = _) := hE
  clear hE
  obtain ⟨k1, hk1⟩ : ∃ k1, k1 = x.k.1 := ⟨_, rfl⟩
  obtain ⟨k2, hk2⟩ : ∃ k2, k2 = x.k.2 := ⟨_, rfl⟩
  obtain ⟨ba, hba⟩ : ∃ ba, ba = x.ba := ⟨_, rfl⟩
  obtain ⟨ix, hix⟩ : ∃ ix, ix = x.ix := ⟨_, rfl⟩
  have hkk : x.k = (k1, k2) := by rw [hk1, hk2]
  rw [← hba, ← hix, hkk] at HE
  rw [← hk1, ← hk2, ← hba, ← hix] at HC
  rw [← hba] at b0
  rw [← hix] at b1
  rw [← hk1] at b3
  rw [← hk2] at b4
  rw [hkk] at HK ⊢
  have HKx : Hid (x.k = (k1, k2)) := hkk
  clear hk1 hk2 hba hix hkk
  go_enter Tryz.func45, Tryz.ntmps45
  go_wp2_with fail
  refine (check_any w k1 k2).mono ?_
  rintro e w1 ⟨rfl, q1, os1, hw1⟩
  have HB1 : Hid (Below w.heap.size w w1) := Grew.below ⟨q1, os1, hw1⟩
  clear hw1 b0 b1 b3 b4 s4
  cases hkey : isKey (k1, k2) with
  | false =>
    have h20 : E = 20 := by rw [HE.out, if_pos hkey]
    subst h20
    simp only [errOf]
    go_wp2
    go_ret2
    exact fp_err HB1.out (by decide) rfl
  | true =>
    rw [hkey, if_neg (by simp)] at HE
    simp only [errOf, if_true]
    obtain ⟨⟨b0, b1, b3, b4⟩, s4⟩ := HC.out w1 HB1.out
    by_cases hb1 : ba < 1 ∨ 1099511627776 < ba
    · have h80 : E = 80 := by rw [HE.out, if_pos hb1]
      subst h80
      rcases hb1 with hb1 | hb1
      · go_wp2
        go_ret2
        exact fp_err HB1.out (by decide) rfl
      · have hb2 : ¬ ba < 1 := by omega
        go_wp2
        go_ret2
        exact fp_err HB1.out (by decide) rfl
    · rw [if_neg hb1] at HE
      have hb2 : ¬ ba < 1 := by omega
      have hb3 : ¬ (1099511627776 : Int) < ba := by omega
      by_cases hi1 : ix < 0 ∨ 64 ≤ ix
      · have h81 : E = 81 := by rw [HE.out, if_pos hi1]
        subst h81
        rcases hi1 with hi1 | hi1
        · go_wp2
          go_ret2
          exact fp_err HB1.out (by decide) rfl
        · have hi2 : ¬ ix < 0 := by omega
          go_wp2
          go_ret2
          exact fp_err HB1.out (by decide) rfl
      · rw [if_neg hi1] at HE
        have hi2 : ¬ ix < 0 := by omega
        have hi3 : ¬ (64 : Int) ≤ ix := by omega
        go_wp2_with fail
        refine (room_any w1 S V D M L P hf cap last vs es R (HS.out w1 HB1.out)).mono ?_
        rintro e w2 ⟨rfl, q2, hw2⟩
        have HB2 : Hid (Below w.heap.size w w2) := HB1.out.trans (by rw [hw2]; exact ((Grew.refl w1).drewN q2).below.mono HB1.out.size)
        clear hw2 b0 b1 b3 b4 s4 HB1
        by_cases hfull : cap = (vs.length : Int)
        · have h92 : E = 92 := by rw [HE.out, if_pos hfull]
          subst h92
          have h0 : cap - (vs.length : Int) = 0 := by omega
          rw [h0]
          go_wp2
          go_ret2
          exact fp_err HB2.out (by decide) rfl
        · rw [if_neg hfull] at HE
          have h0 : ¬ cap - (vs.length : Int) = 0 := by omega
          have h0b : ((cap - (vs.length : Int)) == 0) = false := by simpa using h0
          generalize cap - (vs.length : Int) = rm at *
          obtain ⟨⟨b0, b1, b3, b4⟩, s4⟩ := HC.out w2 HB2.out
          have HG : Hid (Calls Tryz.prog 59 #[ptr D, .agg #[.int .i64 k1, .int .i64 k2]] w2.drew fun e w' => e = .returned (.tuple #[vv (fd es (k1, k2)), .bool (fd es (k1, k2)).isSome]) ∧ Below w2.heap.size w2 w') := by
            have hd : Below w2.heap.size w2 w2.drew := ⟨rfl, rfl, rfl, Nat.le_refl _, fun _ _ => rfl⟩
            refine (get_any w2.drew D M L P hf es (k1, k2) ((HS.out w2 HB2.out).da.kept hd) HK.out).mono fun e w' ⟨h1, h2⟩ => ⟨h1, hd.trans h2⟩
          have HKp : Hid (∀ W, Below w2.heap.size w2 W → W.cell? ⟨S, 4, none⟩ = some (ptr D) ∧ W.cell? ⟨b, 3, none⟩ = some (.int .i64 k1) ∧ W.cell? ⟨b, 4, none⟩ = some (.int .i64 k2)) := fun W hW => by
            have := HC.out W (HB2.out.trans (hW.mono HB2.out.size))
            exact ⟨this.2, this.1.2.2⟩
          go_upto_region 10 with fail
          go_region_held3 (fun w' => w'.cell? ⟨S, 4, none⟩ = some (ptr D) ∧ w'.cell? ⟨b, 3, none⟩ = some (.int .i64 k1) ∧ w'.cell? ⟨b, 4, none⟩ = some (.int .i64 k2)) (first | exact HKp.out _ HB3.out | go_keep) (first | (go_at_call 59; refine HG.out.mono ?_; rintro e w3 ⟨rfl, hb3⟩; have HB3 : Hid (Below w2.heap.size w2 w3) := hb3; clear hb3))
          have HW3 : Hid (Below w.heap.size w w3) := HB2.out.trans (HB3.out.mono HB2.out.size)
          clear b0 b1 b3 b4 s4 HG HKp HB3
          cases hfd : fd es (k1, k2) with
          | none =>
            have hof := (HS.out w3 HW3.out).none_of hfd
            have hE0 : E = 0 := by rw [HE.out, hof]; rfl
            have HN : Hid (Below w.heap.size w (w3.alloc (.cells #[.slice none 0 0] 117)) ∧ w.heap.size ≤ w3.heap.size ∧ (w3.alloc (.cells #[.slice none 0 0] 117)).heap[w3.heap.size]? = some (.cells #[.slice none 0 0] 117 (0, 0))) := ⟨HW3.out.alloc HW3.out.size _, HW3.out.size, heap_alloc_new _ _ rfl⟩
            have HFd : Hid (fd es (k1, k2) = none) := hfd
            simp only [vv, Option.isSome]
            clear hfd hof HE
            go_wp2
            go_ret2
            exact fp_new HN.out.1 hE0 HFd.out rfl HN.out.2.1 HN.out.2.2
          | some e0 =>
            obtain ⟨he0, hk0⟩ := fd_some hfd
            have hne := (HS.out w3 HW3.out).ne e0 he0
            rw [hk0] at hne
            obtain ⟨ys, y, hys⟩ := snoc_of hne
            have hy : y ∈ vs := (List.mem_filter.1 (show y ∈ ofK (k1, k2) vs by rw [hys]; simp)).1
            have hEl : E = if later x y then 0 else 94 := by rw [HE.out, hys]; simp
            have hch := (HS.out w3 HW3.out).ch e0 he0
            have hrw := (HS.out w3 HW3.out).rwv he0
            rw [hk0, hys] at hch hrw
            rw [List.map_append, List.map_cons, List.map_nil] at hrw
            have hyl : ys.length ≤ 1000000 := by
              have h1 : (ofK (k1, k2) vs).length ≤ vs.length := List.length_filter_le _ _
              rw [hys, List.length_append] at h1
              have := hlt.2.2
              omega
            have HNw : Hid (Calls Tryz.prog 60 #[ptr e0.v] w3 fun e w' => e = .returned (ptr y.b) ∧ ∃ q, w' = w3.drewN q) :=
              newest_any w3 e0.v _ _ _ (ys.map Vr.b) y.b (by rw [hch]; simp) hrw (by rw [List.length_map]; omega)
            have HLt : Hid (∀ W, Below w.heap.size w W → Calls Tryz.prog 68 #[ptr b, ptr y.b] W fun e w' => e = .returned (.bool (decide (later x y))) ∧ ∃ q, w' = W.drewN q) := fun W hW => later_any W b y.b x y (HX.out W hW) ((HS.out W hW).vb y hy)
            have HFd : Hid (fd es (k1, k2) = some e0) := hfd
            simp only [vv, Option.isSome]
            clear hfd hys hch hrw hne hk0 HE
            go_wp2_with fail
            refine HNw.out.mono ?_
            rintro e w4 ⟨rfl, q4, hw4⟩
            have HW4 : Hid (Below w.heap.size w w4) := HW3.out.trans (by rw [hw4]; exact ((Grew.refl w3).drewN q4).below.mono HW3.out.size)
            clear hw4 HNw
            go_wp2_with fail
            refine (HLt.out w4 HW4.out).mono ?_
            rintro e w5 ⟨rfl, q5, hw5⟩
            have HW5 : Hid (Below w.heap.size w w5) := HW4.out.trans (by rw [hw5]; exact ((Grew.refl w4).drewN q5).below.mono HW4.out.size)
            clear hw5 HLt
            by_cases hl : later x y
            · have hE0 : E = 0 := by rw [hEl, if_pos hl]
              rw [decide_eq_true hl]
              go_wp2
              go_ret2
              exact fp_old HW5.out hE0 HFd.out rfl
            · have hE0 : E = 94 := by rw [hEl, if_neg hl]
              subst hE0
              rw [decide_eq_false hl]
              go_wp2
              go_ret2
              exact fp_err HW5.out (by decide) rfl
end Go.Proofs.YtbcmmeajglilbaaGreat
