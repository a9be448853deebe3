/-
  drop: AN ENTRY OUT OF ITS LINE.
-/
import Derived.Test.YtenmkigoohpfmaaDAdd
namespace Go.Proofs.Ytenmkigoohpfmaa
open Go.RowKit Go.Sort

set_option maxRecDepth 100000 in
set_option maxHeartbeats 1000000 in
theorem drop_one (w : World) (L p E n : Nat) (C : Array Value) (f : Option Addr) (g : Option Addr) (a b c d : Int) (hL : w.heap[L]? = some (.cells C TL (0, 0))) (h0 : C[p]? = some (.pointer f)) (h1 : C[p + 1]? = some (.pointer g)) (h2 : C[p + 2]? = some (.int .i64 (n : Int))) (hn : 1 ≤ n ∧ n ≤ 140737488355328) (hE : w.heap[E]? = some (.cells #[.int .i64 a, .int .i64 b, .int .i64 c, .int .i64 d, .pointer none, .pointer none] TE (0, 0))) (hne : E ≠ L) :
    Calls Try.prog 15 #[.pointer (some ⟨L, p, none⟩), ptr E] w fun e w' => e = .returned (.tuple #[]) ∧ w' = ((w.setCell ⟨L, p, none⟩ (.pointer none)).setCell ⟨L, p + 1, none⟩ (.pointer none)).setCell ⟨L, p + 2, none⟩ (.int .i64 ((n : Int) - 1)) := by
  have e4 : w.cell? ⟨E, 4, none⟩ = some (.pointer none) := blk_cell hE rfl
  have e5 : w.cell? ⟨E, 5, none⟩ = some (.pointer none) := blk_cell hE rfl
  have k1 : w.cell? ⟨L, p, none⟩ = some (.pointer f) := blk_cell hL h0
  have f1 := frozen_of_row w L p _ _ hL
  have E1 := blk_oth (b := L) (i := p) (.pointer none) hE hne
  have L1 := blk_set (i := p) (.pointer none) hL
  have e4' : (w.setCell ⟨L, p, none⟩ (.pointer none)).cell? ⟨E, 4, none⟩ = some (.pointer none) := blk_cell E1 rfl
  have e5' : (w.setCell ⟨L, p, none⟩ (.pointer none)).cell? ⟨E, 5, none⟩ = some (.pointer none) := blk_cell E1 rfl
  have k2 := blk_cell L1 (set_get (v := .pointer none) h1 (by omega))
  have f2 := frozen_of_row _ L (p + 1) _ _ L1
  have L2 := blk_set (i := p + 1) (.pointer none) L1
  have k3 := blk_cell L2 (set_get (v := .pointer none) (i := p + 1) (set_get (v := .pointer none) (i := p) h2 (by omega)) (by omega))
  have f3 := frozen_of_row _ L (p + 2) _ _ L2
  clear hL hE E1 L1 L2 h0 h1 h2
  go_enter Try.func15, Try.ntmps15
  go_wp2
  go_end0
  exact ⟨rfl, rfl⟩
set_option maxRecDepth 100000 in
set_option maxHeartbeats 1000000 in
theorem drop_first (w : World) (L p E B n : Nat) (C : Array Value) (f : Option Addr) (a b c d : Int) (hL : w.heap[L]? = some (.cells C TL (0, 0))) (h0 : C[p]? = some (.pointer f)) (h2 : C[p + 2]? = some (.int .i64 (n : Int))) (hn : 1 ≤ n ∧ n ≤ 140737488355328) (hE : w.heap[E]? = some (.cells #[.int .i64 a, .int .i64 b, .int .i64 c, .int .i64 d, .pointer none, ptr B] TE (0, 0))) (hne : E ≠ L) (a2 b2 c2 d2 : Int) (x2 y2 : Option Addr) (hB : w.heap[B]? = some (.cells #[.int .i64 a2, .int .i64 b2, .int .i64 c2, .int .i64 d2, .pointer x2, .pointer y2] TE (0, 0))) (nBL : B ≠ L) :
    Calls Try.prog 15 #[.pointer (some ⟨L, p, none⟩), ptr E] w fun e w' => e = .returned (.tuple #[]) ∧ ∃ q, w' = (((w.setCell ⟨L, p, none⟩ (ptr B)).setCell ⟨B, 4, none⟩ (.pointer none)).setCell ⟨L, p + 2, none⟩ (.int .i64 ((n : Int) - 1))).drewN q := by
  have e4 : w.cell? ⟨E, 4, none⟩ = some (.pointer none) := blk_cell hE rfl
  have e5 : w.cell? ⟨E, 5, none⟩ = some (ptr B) := blk_cell hE rfl
  have k1 : w.cell? ⟨L, p, none⟩ = some (.pointer f) := blk_cell hL h0
  have f1 := frozen_of_row w L p _ _ hL
  have E1 := blk_oth (b := L) (i := p) (ptr B) hE hne
  have L1 := blk_set (i := p) (ptr B) hL
  have B1 := blk_oth (b := L) (i := p) (ptr B) hB nBL
  have e4' : (w.setCell ⟨L, p, none⟩ (ptr B)).cell? ⟨E, 4, none⟩ = some (.pointer none) := blk_cell E1 rfl
  have e5' : (w.setCell ⟨L, p, none⟩ (ptr B)).cell? ⟨E, 5, none⟩ = some (ptr B) := blk_cell E1 rfl
  have k2 : (w.setCell ⟨L, p, none⟩ (ptr B)).cell? ⟨B, 4, none⟩ = some (.pointer x2) := blk_cell B1 rfl
  have f2 := frozen_of_row _ B 4 _ _ B1
  have L2 := blk_oth (b := B) (i := 4) (.pointer none) L1 (Ne.symm nBL)
  have k3 := blk_cell L2 (set_get (v := ptr B) (i := p) h2 (by omega))
  have f3 := frozen_of_row _ L (p + 2) _ _ L2
  clear hL hE E1 L1 L2 h0 h2 hB B1
  go_enter Try.func15, Try.ntmps15
  go_wp2_with fail
  go_region
  all_goals (
    go_wp2
    go_end0
    exact ⟨rfl, 1, rfl⟩)
set_option maxRecDepth 100000 in
set_option maxHeartbeats 1000000 in
theorem drop_last (w : World) (L p E A n : Nat) (C : Array Value) (g : Option Addr) (a b c d : Int) (hL : w.heap[L]? = some (.cells C TL (0, 0))) (h1 : C[p + 1]? = some (.pointer g)) (h2 : C[p + 2]? = some (.int .i64 (n : Int))) (hn : 1 ≤ n ∧ n ≤ 140737488355328) (hE : w.heap[E]? = some (.cells #[.int .i64 a, .int .i64 b, .int .i64 c, .int .i64 d, ptr A, .pointer none] TE (0, 0))) (a1 b1 c1 d1 : Int) (x1 y1 : Option Addr) (hA : w.heap[A]? = some (.cells #[.int .i64 a1, .int .i64 b1, .int .i64 c1, .int .i64 d1, .pointer x1, .pointer y1] TE (0, 0))) (nAL : A ≠ L) (nAE : A ≠ E) :
    Calls Try.prog 15 #[.pointer (some ⟨L, p, none⟩), ptr E] w fun e w' => e = .returned (.tuple #[]) ∧ ∃ q, w' = (((w.setCell ⟨A, 5, none⟩ (.pointer none)).setCell ⟨L, p + 1, none⟩ (ptr A)).setCell ⟨L, p + 2, none⟩ (.int .i64 ((n : Int) - 1))).drewN q := by
  have e4 : w.cell? ⟨E, 4, none⟩ = some (ptr A) := blk_cell hE rfl
  have e5 : w.cell? ⟨E, 5, none⟩ = some (.pointer none) := blk_cell hE rfl
  have k1 : w.cell? ⟨A, 5, none⟩ = some (.pointer y1) := blk_cell hA rfl
  have f1 := frozen_of_row w A 5 _ _ hA
  have E1 := blk_oth (b := A) (i := 5) (.pointer none) hE (Ne.symm nAE)
  have L1 := blk_oth (b := A) (i := 5) (.pointer none) hL (Ne.symm nAL)
  have e4' : (w.setCell ⟨A, 5, none⟩ (.pointer none)).cell? ⟨E, 4, none⟩ = some (ptr A) := blk_cell E1 rfl
  have e5' : (w.setCell ⟨A, 5, none⟩ (.pointer none)).cell? ⟨E, 5, none⟩ = some (.pointer none) := blk_cell E1 rfl
  have k2 := blk_cell L1 h1
  have f2 := frozen_of_row _ L (p + 1) _ _ L1
  have L2 := blk_set (i := p + 1) (ptr A) L1
  have k3 := blk_cell L2 (set_get (v := ptr A) (i := p + 1) h2 (by omega))
  have f3 := frozen_of_row _ L (p + 2) _ _ L2
  clear hL hE E1 L1 L2 h1 h2 hA
  go_enter Try.func15, Try.ntmps15
  go_wp2_with fail
  go_region
  all_goals (
    go_wp2
    go_end0
    exact ⟨rfl, 1, rfl⟩)
set_option maxRecDepth 100000 in
set_option maxHeartbeats 1000000 in
theorem drop_mid (w : World) (L p E A B n : Nat) (C : Array Value) (a b c d : Int) (hL : w.heap[L]? = some (.cells C TL (0, 0))) (h2 : C[p + 2]? = some (.int .i64 (n : Int))) (hn : 1 ≤ n ∧ n ≤ 140737488355328) (hE : w.heap[E]? = some (.cells #[.int .i64 a, .int .i64 b, .int .i64 c, .int .i64 d, ptr A, ptr B] TE (0, 0))) (a1 b1 c1 d1 : Int) (x1 y1 : Option Addr) (hA : w.heap[A]? = some (.cells #[.int .i64 a1, .int .i64 b1, .int .i64 c1, .int .i64 d1, .pointer x1, .pointer y1] TE (0, 0))) (nAL : A ≠ L) (nAE : A ≠ E) (a2 b2 c2 d2 : Int) (x2 y2 : Option Addr) (hB : w.heap[B]? = some (.cells #[.int .i64 a2, .int .i64 b2, .int .i64 c2, .int .i64 d2, .pointer x2, .pointer y2] TE (0, 0))) (nBL : B ≠ L) (nAB : A ≠ B) :
    Calls Try.prog 15 #[.pointer (some ⟨L, p, none⟩), ptr E] w fun e w' => e = .returned (.tuple #[]) ∧ ∃ q, w' = (((w.setCell ⟨A, 5, none⟩ (ptr B)).setCell ⟨B, 4, none⟩ (ptr A)).setCell ⟨L, p + 2, none⟩ (.int .i64 ((n : Int) - 1))).drewN q := by
  have e4 : w.cell? ⟨E, 4, none⟩ = some (ptr A) := blk_cell hE rfl
  have e5 : w.cell? ⟨E, 5, none⟩ = some (ptr B) := blk_cell hE rfl
  have k1 : w.cell? ⟨A, 5, none⟩ = some (.pointer y1) := blk_cell hA rfl
  have f1 := frozen_of_row w A 5 _ _ hA
  have E1 := blk_oth (b := A) (i := 5) (ptr B) hE (Ne.symm nAE)
  have L1 := blk_oth (b := A) (i := 5) (ptr B) hL (Ne.symm nAL)
  have B1 := blk_oth (b := A) (i := 5) (ptr B) hB (Ne.symm nAB)
  have e4' : (w.setCell ⟨A, 5, none⟩ (ptr B)).cell? ⟨E, 4, none⟩ = some (ptr A) := blk_cell E1 rfl
  have e5' : (w.setCell ⟨A, 5, none⟩ (ptr B)).cell? ⟨E, 5, none⟩ = some (ptr B) := blk_cell E1 rfl
  have k2 : (w.setCell ⟨A, 5, none⟩ (ptr B)).cell? ⟨B, 4, none⟩ = some (.pointer x2) := blk_cell B1 rfl
  have f2 := frozen_of_row _ B 4 _ _ B1
  have L2 := blk_oth (b := B) (i := 4) (ptr A) L1 (Ne.symm nBL)
  have k3 := blk_cell L2 h2
  have f3 := frozen_of_row _ L (p + 2) _ _ L2
  clear hL hE E1 L1 L2 h2 hA hB B1
  go_enter Try.func15, Try.ntmps15
  go_wp2_with fail
  go_region
  all_goals (
    go_wp2_with fail
    go_region
    all_goals (
      go_wp2
      go_end0
      exact ⟨rfl, 2, rfl⟩))
end Go.Proofs.Ytenmkigoohpfmaa
