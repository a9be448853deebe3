/-
  add: AN ENTRY BEHIND ALL OTHERS.
-/
import Derived.Test.YtenmkigoohpfmaaDPart
namespace Go.Proofs.Ytenmkigoohpfmaa
open Go.RowKit Go.Sort

abbrev TL : TypeId := 52
abbrev TE : TypeId := 49
theorem blk_set {w : World} {b i : Nat} {cs : Array Value} {t : TypeId} (v : Value) (h : w.heap[b]? = some (.cells cs t (0, 0))) : (w.setCell ⟨b, i, none⟩ v).heap[b]? = some (.cells (cs.setIfInBounds i v) t (0, 0)) := heap_setCell_same w b i cs t v h
theorem blk_oth {w : World} {b c i : Nat} {o : Option Obj} (v : Value) (h : w.heap[c]? = o) (hne : c ≠ b) : (w.setCell ⟨b, i, none⟩ v).heap[c]? = o := (heap_setCell_other w ⟨b, i, none⟩ c v hne).trans h
theorem blk_cell {w : World} {b i : Nat} {cs : Array Value} {t : TypeId} {v : Value} (h : w.heap[b]? = some (.cells cs t (0, 0))) (hv : cs[i]? = some v) : w.cell? ⟨b, i, none⟩ = some v := by rw [World.cell?, h]; exact hv
theorem set_get {cs : Array Value} {i j : Nat} {v u : Value} (h : cs[j]? = some u) (hne : i ≠ j) : (cs.setIfInBounds i v)[j]? = some u := by rw [Array.getElem?_setIfInBounds_ne hne]; exact h
theorem set_same {cs : Array Value} {i : Nat} {v u : Value} (h : cs[i]? = some u) : (cs.setIfInBounds i v)[i]? = some v := by
  rw [Array.getElem?_setIfInBounds_self, if_pos (Array.getElem?_eq_some_iff.1 h).1]

set_option maxRecDepth 100000 in
set_option maxHeartbeats 1000000 in
theorem add_first (w : World) (L p E n : Nat) (C : Array Value) (f : Option Addr) (a b c d : Int) (x y : Option Addr) (hL : w.heap[L]? = some (.cells C TL (0, 0))) (h0 : C[p]? = some (.pointer f)) (h1 : C[p + 1]? = some (.pointer none)) (h2 : C[p + 2]? = some (.int .i64 (n : Int)))
    (hn : n ≤ 140737488355328) (hE : w.heap[E]? = some (.cells #[.int .i64 a, .int .i64 b, .int .i64 c, .int .i64 d, .pointer x, .pointer y] TE (0, 0))) (hne : E ≠ L) :
    Calls Try.prog 13 #[.pointer (some ⟨L, p, none⟩), ptr E] w fun e w' => e = .returned (.tuple #[]) ∧ w' = (((w.setCell ⟨E, 4, none⟩ (.pointer none)).setCell ⟨L, p, none⟩ (ptr E)).setCell ⟨L, p + 1, none⟩ (ptr E)).setCell ⟨L, p + 2, none⟩ (.int .i64 ((n : Int) + 1)) := by
  have c1 := blk_cell hL h1
  have cE : w.cell? ⟨E, 4, none⟩ = some (.pointer x) := blk_cell hE rfl
  have fE := frozen_of_row w E 4 _ _ hE
  have L1 := blk_oth (b := E) (i := 4) (.pointer none) hL (Ne.symm hne)
  have c1' := blk_cell L1 h1
  have c0' := blk_cell L1 h0
  have fL0 := frozen_of_row _ L p _ _ L1
  have L2 := blk_set (i := p) (ptr E) L1
  have c1'' := blk_cell L2 (set_get (v := ptr E) h1 (by omega))
  have fL1 := frozen_of_row _ L (p + 1) _ _ L2
  have L3 := blk_set (i := p + 1) (ptr E) L2
  have c2'' := blk_cell L3 (set_get (v := ptr E) (set_get (v := ptr E) (i := p) h2 (by omega)) (by omega))
  have fL2 := frozen_of_row _ L (p + 2) _ _ L3
  clear hL hE L1 L2 L3 h0 h1 h2
  go_enter Try.func13, Try.ntmps13
  go_wp2
  go_end0
  exact ⟨rfl, rfl⟩
set_option maxRecDepth 100000 in
set_option maxHeartbeats 1000000 in
theorem add_more (w : World) (L p E T n : Nat) (C : Array Value) (a b c d a' b' c' d' : Int) (x y x' y' : Option Addr) (hL : w.heap[L]? = some (.cells C TL (0, 0))) (h1 : C[p + 1]? = some (ptr T)) (h2 : C[p + 2]? = some (.int .i64 (n : Int)))
    (hn : n ≤ 140737488355328) (hE : w.heap[E]? = some (.cells #[.int .i64 a, .int .i64 b, .int .i64 c, .int .i64 d, .pointer x, .pointer y] TE (0, 0))) (hT : w.heap[T]? = some (.cells #[.int .i64 a', .int .i64 b', .int .i64 c', .int .i64 d', .pointer x', .pointer y'] TE (0, 0))) (hne : E ≠ L) (hnT : T ≠ L) (hTE : T ≠ E) :
    Calls Try.prog 13 #[.pointer (some ⟨L, p, none⟩), ptr E] w fun e w' => e = .returned (.tuple #[]) ∧ w' = (((w.setCell ⟨E, 4, none⟩ (ptr T)).setCell ⟨T, 5, none⟩ (ptr E)).setCell ⟨L, p + 1, none⟩ (ptr E)).setCell ⟨L, p + 2, none⟩ (.int .i64 ((n : Int) + 1)) := by
  have c1 := blk_cell hL h1
  have cE : w.cell? ⟨E, 4, none⟩ = some (.pointer x) := blk_cell hE rfl
  have fE := frozen_of_row w E 4 _ _ hE
  have L1 := blk_oth (b := E) (i := 4) (ptr T) hL (Ne.symm hne)
  have T1 := blk_oth (b := E) (i := 4) (ptr T) hT hTE
  have c1' := blk_cell L1 h1
  have ct : (w.setCell ⟨E, 4, none⟩ (ptr T)).cell? ⟨T, 5, none⟩ = some (.pointer y') := blk_cell T1 rfl
  have ft := frozen_of_row _ T 5 _ _ T1
  have L2 := blk_oth (b := T) (i := 5) (ptr E) L1 (Ne.symm hnT)
  have c1'' := blk_cell L2 h1
  have fL1 := frozen_of_row _ L (p + 1) _ _ L2
  have L3 := blk_set (i := p + 1) (ptr E) L2
  have c2'' := blk_cell L3 (set_get (v := ptr E) h2 (by omega))
  have fL2 := frozen_of_row _ L (p + 2) _ _ L3
  clear hL hE hT T1 L1 L2 L3 h1 h2
  go_enter Try.func13, Try.ntmps13
  go_wp2
  go_end0
  exact ⟨rfl, rfl⟩
end Go.Proofs.Ytenmkigoohpfmaa
