/-
  KeyOf, later; fill, Fill.
-/
import Derived.Test.YtfkijdlggdgfhaaSLook
namespace Go.Proofs.Ytfkijdlggdgfhaa
open Go.RowKit Go.Sort

def koV : Option Vr → K × Int
  | none => ((0, 0), 93)
  | some v => (v.k, 0)
set_option maxRecDepth 100000 in
set_option maxHeartbeats 2000000 in
theorem keyOf_any (w : World) (S V D M L P : Nat) (hf : Value) (cap last : Int) (vs : List Vr) (es : List En) (R : K → Nat × Nat × Nat) (n : Int) (h : SA w S V D M L P hf cap last vs es R) (hn : In64 n) :
    Calls Try.prog 31 #[ptr S, .int .i64 n] w fun e w' => e = .returned (.tuple #[kv (koV (fv vs n)).1, .int .i64 (koV (fv vs n)).2]) ∧ Below w.heap.size w w' := by
  have HB : Hid (∀ o, Below w.heap.size w (w.alloc o)) := fun o => (Below.refl _ _).alloc (Nat.le_refl _) _
  have HS : Hid (∀ o, SA (w.alloc o) S V D M L P hf cap last vs es R) := fun o => h.kept (HB.out o)
  have HC : ∀ o, (w.alloc o).cell? ⟨S, 3, none⟩ = some (.map (some V)) := fun o => (HS.out o).cells.2.2.2.1
  have hl : ∀ o, (Instr.lookup 67 (.map (some V)) (.int .i64 n) false).run Try.prog (w.alloc o) = .ok (pf (fv vs n)) (w.alloc o) := fun o => (HS.out o).look hn
  clear h
  go_enter Try.func31, Try.ntmps31
  cases hc : fv vs n with
  | none =>
    rw [hc] at hl
    simp only [pf] at hl
    go_wp2
    refine bodyPost_ret (v := .tuple #[.agg #[.int .i64 0, .int .i64 0], .int .i64 93]) (by simp [results, Try.results31, go_sem]) rfl ?_
    exact ⟨rfl, HB.out _⟩
  | some v =>
    rw [hc] at hl
    have c3 : ∀ o, (w.alloc o).cell? ⟨v.b, 3, none⟩ = some (.int .i64 v.k.1) := fun o => ((HS.out o).vcells (fv_some hc).1).2.2.2.1
    have c4 : ∀ o, (w.alloc o).cell? ⟨v.b, 4, none⟩ = some (.int .i64 v.k.2) := fun o => ((HS.out o).vcells (fv_some hc).1).2.2.2.2.1
    clear hc
    simp only [pf] at hl
    go_wp2
    refine bodyPost_ret (v := .tuple #[kv v.k, .int .i64 0]) (by simp [results, Try.results31, go_sem]) rfl ?_
    exact ⟨rfl, HB.out _⟩
instance (a b : Vr) : Decidable (later a b) := by unfold later; infer_instance
set_option maxRecDepth 100000 in
set_option maxHeartbeats 2000000 in
theorem later_any (w : World) (a b : Nat) (x y : Vr) (ha : w.heap[a]? = some (.cells (cellsV x) 82 (0, 0))) (hb : w.heap[b]? = some (.cells (cellsV y) 82 (0, 0))) :
    Calls Try.prog 58 #[ptr a, ptr b] w fun e w' => e = .returned (.bool (decide (later x y))) ∧ ∃ q, w' = w.drewN q := by
  have a0 : w.cell? ⟨a, 0, none⟩ = some (.int .i64 x.ba) := by simp [World.cell?, ha, cellsV]
  have a1 : w.cell? ⟨a, 1, none⟩ = some (.int .i64 x.ix) := by simp [World.cell?, ha, cellsV]
  have b0 : w.cell? ⟨b, 0, none⟩ = some (.int .i64 y.ba) := by simp [World.cell?, hb, cellsV]
  have b1 : w.cell? ⟨b, 1, none⟩ = some (.int .i64 y.ix) := by simp [World.cell?, hb, cellsV]
  clear ha hb
  have HD : Hid (decide (later x y) = (decide (y.ba < x.ba) || (decide (y.ba = x.ba) && decide (y.ix < x.ix)))) := by
    show decide (later x y) = _
    rw [Bool.eq_iff_iff]
    simp only [decide_eq_true_eq, Bool.or_eq_true, Bool.and_eq_true]
    exact Iff.rfl
  rw [HD.out]
  clear HD
  generalize x.ba = p at *
  generalize x.ix = q at *
  generalize y.ba = r at *
  generalize y.ix = s at *
  by_cases h1 : r < p
  · have h1b : decide (r < p) = true := by simpa using h1
    rw [h1b]
    go_enter Try.func58, Try.ntmps58
    go_wp2_with fail
    go_quiet (fail)
    go_wp2
    go_ret
    exact ⟨rfl, nq, rfl⟩
  · have h1b : decide (r < p) = false := by simpa using h1
    rw [h1b]
    by_cases h2 : p = r
    · subst h2
      cases h3 : decide (s < q) with
      | true =>
        have h3' := of_decide_eq_true h3
        go_enter Try.func58, Try.ntmps58
        go_wp2_with fail
        go_quiet (fail)
        go_wp2
        go_ret
        exact ⟨by simp, nq, rfl⟩
      | false =>
        have h3' := of_decide_eq_false h3
        go_enter Try.func58, Try.ntmps58
        go_wp2_with fail
        go_quiet (fail)
        go_wp2
        go_ret
        exact ⟨by simp, nq, rfl⟩
    · have h2b : decide (r = p) = false := by simpa using fun e => h2 e.symm
      have h2c : (p == r) = false := by simpa using h2
      rw [h2b]
      go_enter Try.func58, Try.ntmps58
      go_wp2_with fail
      go_quiet (fail)
      go_wp2
      go_ret
      exact ⟨by simp, nq, rfl⟩
/-- a version that is filled -/
def fillV (v : Vr) (ci : Bool) (cv : Int) : Vr := { v with fl := true, ci := if ci then true else v.ci, cv := if ci then cv else v.cv }
theorem cellsV_fl (v : Vr) : (cellsV v).setIfInBounds 5 (.bool true) = cellsV { v with fl := true } := by simp [cellsV]
theorem cellsV_cell (v : Vr) (ci : Bool) (cv : Int) : ((cellsV v).setIfInBounds 6 (.bool ci)).setIfInBounds 7 (.int .i64 cv) = cellsV { v with ci := ci, cv := cv } := by simp [cellsV]
set_option maxRecDepth 100000 in
set_option maxHeartbeats 2000000 in
theorem vfill_any (w : World) (b : Nat) (v : Vr) (ci : Bool) (cv : Int) (h : w.heap[b]? = some (.cells (cellsV v) 82 (0, 0))) :
    Calls Try.prog 43 #[ptr b, .agg #[.bool ci, .int .i64 cv]] w fun e w' => e = .returned (.tuple #[]) ∧ w'.heap[b]? = some (.cells (cellsV (fillV v ci cv)) 82 (0, 0)) ∧ Fr (fun k => k = b) w w' := by
  have hbl := blk_lt h
  have c5 : w.cell? ⟨b, 5, none⟩ = some (.bool v.fl) := by simp [World.cell?, h, cellsV]
  have f5 : w.frozen? ⟨b, 5, none⟩ = false := frozen_of_row _ _ _ _ _ h
  have h5 : (w.setCell ⟨b, 5, none⟩ (.bool true)).heap[b]? = some (.cells (cellsV { v with fl := true }) 82 (0, 0)) := by rw [blk_set _ h, cellsV_fl]
  have c6 : (w.setCell ⟨b, 5, none⟩ (.bool true)).cell? ⟨b, 6, none⟩ = some (.bool v.ci) := by simp [World.cell?, h5, cellsV]
  have f6 : (w.setCell ⟨b, 5, none⟩ (.bool true)).frozen? ⟨b, 6, none⟩ = false := frozen_of_row _ _ _ _ _ h5
  have h6 := blk_set (i := 6) (.bool ci) h5
  have c7 : ((w.setCell ⟨b, 5, none⟩ (.bool true)).setCell ⟨b, 6, none⟩ (.bool ci)).cell? ⟨b, 7, none⟩ = some (.int .i64 v.cv) := by simp [World.cell?, h6, cellsV]
  have f7 : (w.setCell ⟨b, 5, none⟩ (.bool true)).frozen? ⟨b, 7, none⟩ = false := frozen_of_row _ _ _ _ _ h5
  have hne : b ≠ w.heap.size := by omega
  have c5' : ∀ o, (w.alloc o).cell? ⟨b, 5, none⟩ = some (.bool v.fl) := fun o => Lib.cell?_alloc_some _ c5
  have HF5 : Hid (Fr (fun k => k = b) w (w.setCell ⟨b, 5, none⟩ (.bool true))) := (Fr.refl _ _).set _ _ (.inr rfl)
  have HF7 : Hid (Fr (fun k => k = b) w (((w.setCell ⟨b, 5, none⟩ (.bool true)).setCell ⟨b, 6, none⟩ (.bool ci)).setCell ⟨b, 7, none⟩ (.int .i64 cv))) := (HF5.out.set _ _ (.inr rfl)).set _ _ (.inr rfl)
  have HE5 : Hid ((w.setCell ⟨b, 5, none⟩ (.bool true)).heap[b]? = some (.cells (cellsV { v with fl := true }) 82 (0, 0))) := h5
  have HE7 : Hid ((((w.setCell ⟨b, 5, none⟩ (.bool true)).setCell ⟨b, 6, none⟩ (.bool ci)).setCell ⟨b, 7, none⟩ (.int .i64 cv)).heap[b]? = some (.cells (cellsV { v with fl := true, ci := ci, cv := cv }) 82 (0, 0))) := by
    show _ = _
    rw [blk_set _ h6, cellsV_cell]
  have HAl : Hid (∀ (W : World) o, b < W.heap.size → Fr (fun k => k = b) w W → Fr (fun k => k = b) w (W.alloc o) ∧ (W.alloc o).heap[b]? = W.heap[b]?) := fun W o hl hW => ⟨hW.trans (T := fun k => k = b) (Fr.ofBelow ((Below.refl _ _).alloc (Nat.le_refl _) _)) (fun _ _ h => h), heap_alloc_old _ _ hl⟩
  clear h h5 h6
  go_enter Try.func43, Try.ntmps43
  cases ci with
  | false =>
    go_wp2
    go_end0
    obtain ⟨x1, x2⟩ := HAl.out _ (.cells #[.bool false, .int .i64 cv] 30) (blk_lt HE5.out) HF5.out
    exact ⟨rfl, x2.trans HE5.out, x1⟩
  | true =>
    go_wp2
    go_end0
    obtain ⟨x1, x2⟩ := HAl.out _ (.cells #[.bool true, .int .i64 cv] 30) (blk_lt HE7.out) HF7.out
    exact ⟨rfl, x2.trans HE7.out, x1⟩
end Go.Proofs.Ytfkijdlggdgfhaa
