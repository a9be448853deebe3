/-
  Get, line, Len, Size, Part.
-/
import Derived.Test.YtghfofjpoeckkaaHSmall
namespace Go.Proofs.Ytghfofjpoeckkaa
open Go.RowKit Go.Sort

def vv : Option En → Int × Int
  | none => (0, 0)
  | some e => e.v
theorem DA.valc {w : World} {D M L P : Nat} {hf : Value} {es : List En} (h : DA w D M L hf P es) {e : En} (he : e ∈ es) : w.cell? ⟨e.b, 1, none⟩ = some (.int .i64 e.v.1) ∧ w.cell? ⟨e.b, 2, none⟩ = some (.int .i64 e.v.2) := by
  obtain ⟨x, y, h1⟩ := h.entry he
  constructor <;> rw [World.cell?, h1] <;> rfl
theorem blk2_set {w : World} {B : Nat} {a b : Value} {t : TypeId} (h : w.heap[B]? = some (.cells #[a, b] t (0, 0))) (x y : Value) : ((w.setCell ⟨B, 0, none⟩ x).setCell ⟨B, 1, none⟩ y).heap[B]? = some (.cells #[x, y] t (0, 0)) := by
  have h1 := heap_setCell_same w B 0 _ _ x h
  have h2 := heap_setCell_same _ B 1 _ _ y h1
  rw [h2]; rfl
theorem blk2_cell {w : World} {B : Nat} {a b : Value} {t : TypeId} (h : w.heap[B]? = some (.cells #[a, b] t (0, 0))) : w.cell? ⟨B, 0, none⟩ = some a ∧ w.cell? ⟨B, 1, none⟩ = some b ∧ w.frozen? ⟨B, 0, none⟩ = false ∧ w.frozen? ⟨B, 1, none⟩ = false := ⟨by simp [World.cell?, h], by simp [World.cell?, h], frozen_of_row w B 0 _ _ h, frozen_of_row w B 1 _ _ h⟩
theorem below2_set {w W : World} {C B : Nat} (h : Below C w W) (hB : C ≤ B) (x y : Value) : Below C w ((W.setCell ⟨B, 0, none⟩ x).setCell ⟨B, 1, none⟩ y) := below_set (below_set h _ _ hB) _ _ hB

set_option maxRecDepth 100000 in
set_option maxHeartbeats 1000000 in
theorem get_any (w : World) (D M L P : Nat) (hf : Value) (es : List En) (k : K) (h : DA w D M L hf P es) (hk : KIn k) :
    Calls Try.prog 19 #[ptr D, kv k] w fun e w' => e = .returned (.tuple #[vp (vv (fd es k)), .bool (fd es k).isSome]) ∧ Below w.heap.size w w' := by
  have HD : Hid (DA w D M L hf P es ∧ KIn k) := ⟨h, hk⟩
  clear h hk
  go_enter Try.func19, Try.ntmps19
  go_wp2_with fail
  have HB1 : Hid (Below w.heap.size w (w.alloc (.cells #[.int .i64 0, .int .i64 0] 28))) := (Below.refl _ _).alloc (Nat.le_refl _) _
  have HX1 : Hid ((w.alloc (.cells #[.int .i64 0, .int .i64 0] 28)).heap[w.heap.size]? = some (.cells #[.int .i64 0, .int .i64 0] 28 (0, 0))) := heap_alloc_new _ _ rfl
  generalize w.alloc (.cells #[.int .i64 0, .int .i64 0] 28) = W1 at *
  refine (find_any W1 D M L P hf es k (HD.out.1.kept HB1.out) HD.out.2).mono ?_
  rintro e w2 ⟨rfl, hb2⟩
  have HB2 : Hid (Below w.heap.size w w2) := HB1.out.trans (hb2.mono HB1.out.size)
  have HX2 : Hid (w2.heap[w.heap.size]? = some (.cells #[.int .i64 0, .int .i64 0] 28 (0, 0))) := (hb2.block _ (blk_lt HX1.out)).trans HX1.out
  have HD2 : Hid (DA w2 D M L hf P es) := HD.out.1.kept HB2.out
  clear hb2 HB1 HX1
  cases hc : fd es k with
  | none =>
    simp only [fp]
    obtain ⟨W3, hW3⟩ : ∃ W3, W3 = w2.alloc (.cells #[.int .i64 0, .int .i64 0] 28) := ⟨_, rfl⟩
    have HX3 : Hid (W3.heap[w.heap.size]? = some (.cells #[.int .i64 0, .int .i64 0] 28 (0, 0)) ∧ W3.heap[w2.heap.size]? = some (.cells #[.int .i64 0, .int .i64 0] 28 (0, 0)) ∧ Below w.heap.size w W3) := by
      rw [hW3]
      exact ⟨(heap_alloc_old _ _ (blk_lt HX2.out)).trans HX2.out, heap_alloc_new _ _ rfl, HB2.out.alloc HB2.out.size _⟩
    go_upto_region 5 with fail
    rw [← hW3]
    clear hW3
    generalize w2.heap.size = B2 at *
    obtain ⟨x0, x1, f0, f1⟩ := blk2_cell HX3.out.1
    obtain ⟨y0, y1, _, _⟩ := blk2_cell HX3.out.2.1
    have HR := blk2_cell (blk2_set HX3.out.1 (.int .i64 0) (.int .i64 0))
    have HBf : Hid (Below w.heap.size w ((W3.setCell ⟨w.heap.size, 0, none⟩ (.int .i64 0)).setCell ⟨w.heap.size, 1, none⟩ (.int .i64 0))) := below2_set HX3.out.2.2 (Nat.le_refl _) _ _
    go_wp2
    refine bodyPost_ret (v := .tuple #[vp (0, 0), .bool false]) (by simp [results, Try.results19, go_sem, HR.1, HR.2.1]) rfl ?_
    exact ⟨by rw [hc]; rfl, HBf.out⟩
  | some e =>
    obtain ⟨cv0, cv1⟩ := HD2.out.valc (fd_some hc).1
    simp only [fp]
    obtain ⟨x0, x1, f0, f1⟩ := blk2_cell HX2.out
    have HR := blk2_cell (blk2_set HX2.out (.int .i64 e.v.1) (.int .i64 e.v.2))
    have HBf : Hid (Below w.heap.size w ((w2.setCell ⟨w.heap.size, 0, none⟩ (.int .i64 e.v.1)).setCell ⟨w.heap.size, 1, none⟩ (.int .i64 e.v.2))) := below2_set HB2.out (Nat.le_refl _) _ _
    go_wp2
    refine bodyPost_ret (v := .tuple #[vp e.v, .bool true]) (by simp [results, Try.results19, go_sem, HR.1, HR.2.1]) rfl ?_
    exact ⟨by rw [hc]; rfl, HBf.out⟩

theorem hp_ptr (l : List En) : ∃ o, hp l = .pointer o := by cases l with | nil => exact ⟨_, rfl⟩ | cons e l => exact ⟨_, rfl⟩
theorem lp_ptr (l : List En) : ∃ o, lp l = .pointer o := by
  unfold lp
  split <;> exact ⟨_, rfl⟩
/-- a partition's, none if there is no such one -/
def ptI (P : Nat) (p : Int) (es : List En) : List En := if 0 ≤ p ∧ p < P then pt p.toNat es else []
theorem DA.linec {w : World} {D M L P : Nat} {hf : Value} {es : List En} (h : DA w D M L hf P es) {p : Nat} (hp0 : p < P) : w.cell? ⟨L, p * 3, none⟩ = some (hp (pt p es)) ∧ w.cell? ⟨L, p * 3 + 1, none⟩ = some (lp (pt p es)) ∧ w.cell? ⟨L, p * 3 + 2, none⟩ = some (.int .i64 ((pt p es).length : Int)) := by
  obtain ⟨C, h1, _, h2⟩ := h.ln
  obtain ⟨a, b, c⟩ := h2 p hp0
  rw [Nat.mul_comm] at a b c
  refine ⟨?_, ?_, ?_⟩ <;> rw [World.cell?, h1]
  · exact a
  · exact b
  · exact c
set_option maxRecDepth 100000 in
set_option maxHeartbeats 1000000 in
theorem line_any (w : World) (D M L P : Nat) (hf : Value) (es : List En) (p : Int) (h : DA w D M L hf P es) :
    Calls Try.prog 22 #[ptr D, .int .i64 p] w fun e w' => e = .returned (.agg #[hp (ptI P p es), lp (ptI P p es), .int .i64 ((ptI P p es).length : Int)]) ∧ Below w.heap.size w w' := by
  have HB1 : Hid (Below w.heap.size w (w.alloc (.cells #[.pointer none, .pointer none, .int .i64 0] 47))) := (Below.refl _ _).alloc (Nat.le_refl _) _
  have HD : Hid (DA (w.alloc (.cells #[.pointer none, .pointer none, .int .i64 0] 47)) D M L hf P es) := h.kept HB1.out
  obtain ⟨_, _, c2⟩ := HD.out.cells
  clear h
  go_enter Try.func22, Try.ntmps22
  by_cases h0 : p < 0
  · have e1 : ptI P p es = [] := by unfold ptI; rw [if_neg (by omega)]
    rw [e1]
    go_wp2
    refine bodyPost_ret (v := .agg #[.pointer none, .pointer none, .int .i64 0]) (by simp [results, Try.results22, go_sem]) rfl ?_
    exact ⟨rfl, HB1.out⟩
  · by_cases h1 : p < P
    · obtain ⟨q, rfl⟩ : ∃ q : Nat, p = (q : Int) := ⟨p.toNat, by omega⟩
      obtain ⟨l1, l2, l3⟩ := HD.out.linec (p := q) (by omega)
      have e1 : ptI P (q : Int) es = pt q es := by unfold ptI; rw [if_pos ⟨by omega, h1⟩]; rfl
      rw [e1]
      have HB2 : ∀ u, Hid (Below w.heap.size w (w.alloc (.cells u 47))) := fun u => (Below.refl _ _).alloc (Nat.le_refl _) _
      obtain ⟨v1, hv1⟩ := hp_ptr (pt q es)
      obtain ⟨v2, hv2⟩ := lp_ptr (pt q es)
      rw [hv1] at l1 ⊢
      rw [hv2] at l2 ⊢
      generalize (pt q es).length = v3 at *
      clear hv1 hv2
      go_wp2
      refine bodyPost_ret (v := .agg #[.pointer v1, .pointer v2, .int .i64 v3]) (by simp [results, Try.results22, go_sem]) rfl ?_
      exact ⟨rfl, (HB2 _).out⟩
    · have e1 : ptI P p es = [] := by unfold ptI; rw [if_neg (by omega)]
      rw [e1]
      go_wp2
      refine bodyPost_ret (v := .agg #[.pointer none, .pointer none, .int .i64 0]) (by simp [results, Try.results22, go_sem]) rfl ?_
      exact ⟨rfl, HB1.out⟩

set_option maxRecDepth 100000 in
set_option maxHeartbeats 1000000 in
theorem size_any (w : World) (D M L P : Nat) (hf : Value) (es : List En) (p : Int) (h : DA w D M L hf P es) :
    Calls Try.prog 20 #[ptr D, .int .i64 p] w fun e w' => e = .returned (.int .i64 ((ptI P p es).length : Int)) ∧ Below w.heap.size w w' := by
  have HD : Hid (DA w D M L hf P es) := h
  clear h
  go_enter Try.func20, Try.ntmps20
  go_wp2_with fail
  refine (line_any w D M L P hf es p HD.out).mono ?_
  rintro e w1 ⟨rfl, hb⟩
  have HB : Hid (Below w.heap.size w w1) := hb
  clear hb
  obtain ⟨v1, hv1⟩ := hp_ptr (ptI P p es)
  obtain ⟨v2, hv2⟩ := lp_ptr (ptI P p es)
  rw [hv1, hv2]
  have hfl : ∀ (a b : Option Addr) (c : Int) (w : World), (Instr.field 47 (.agg #[.pointer a, .pointer b, .int .i64 c]) 2).run Try.prog w = .ok (.int .i64 c) w := fun _ _ _ _ => by kernel_rfl
  go_wp2
  go_ret
  exact ⟨rfl, HB.out⟩

theorem DA.len {w : World} {D M L P : Nat} {hf : Value} {es : List En} (h : DA w D M L hf P es) (ty : TypeId) : (Builtin.len_ #[40] ty #[.map (some M)]).run Try.prog w = .ok (.int .i64 (es.length : Int)) w := by
  obtain ⟨ms, c, h1, h2⟩ := h.mp
  have e1 : ms.size = es.length := by have := congrArg List.length h2; simpa using this
  simp [Builtin.len_, run_underlying Try.underlying40, MapKept.run_getObj_map h1, goInt, Result.andThen, e1]
set_option maxRecDepth 100000 in
set_option maxHeartbeats 1000000 in
theorem len_any (w : World) (D M L P : Nat) (hf : Value) (es : List En) (h : DA w D M L hf P es) :
    Calls Try.prog 17 #[ptr D] w fun e w' => e = .returned (.int .i64 (es.length : Int)) ∧ w' = w := by
  obtain ⟨_, c1, _⟩ := h.cells
  have hl := h.len
  clear h
  go_enter Try.func17, Try.ntmps17
  go_wp2
  go_ret
  exact ⟨rfl, rfl⟩
end Go.Proofs.Ytghfofjpoeckkaa
