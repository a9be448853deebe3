import Derived.Test.YtbcmmeajglilbaaGreatKKMath
import Derived.Laws.MakeOwn
/-
  Get, line, Len, Size, Part.
-/
namespace Go.Proofs.YtbcmmeajglilbaaGreat
open Go.RowKit Go.Sort

def vv : Option En → Value
  | none => .pointer none
  | some e => ptr e.v
theorem DA.valc {w : World} {D M L P : Nat} {hf : Value} {es : List En} (h : DA w D M L hf P es) {e : En} (he : e ∈ es) : w.cell? ⟨e.b, 2, none⟩ = some (ptr e.v) := by
  obtain ⟨x, y, h1⟩ := h.entry he
  rw [World.cell?, h1]; rfl

set_option maxRecDepth 100000 in
set_option maxHeartbeats 1000000 in
theorem get_any (w : World) (D M L P : Nat) (hf : Value) (es : List En) (k : K) (h : DA w D M L hf P es) (hk : KIn k) :
    Calls Tryz.prog 59 #[ptr D, kv k] w fun e w' => e = .returned (.tuple #[vv (fd es k), .bool (fd es k).isSome]) ∧ Below w.heap.size w w' := by
  have HD : Hid (DA w D M L hf P es ∧ KIn k) := ⟨h, hk⟩
  clear h hk
  obtain ⟨k1, k2⟩ := k
  go_enter Tryz.func59, Tryz.ntmps59
  go_wp2_with fail
  have HB1 : Hid (Below w.heap.size w (w.alloc (.cells #[.int .i64 k1, .int .i64 k2] 41))) := (Below.refl _ _).alloc (Nat.le_refl _) _
  generalize w.alloc (.cells #[.int .i64 k1, .int .i64 k2] 41) = W1 at *
  refine (find_any W1 D M L P hf es (k1, k2) (HD.out.1.kept HB1.out) HD.out.2).mono ?_
  rintro e w2 ⟨rfl, hb2⟩
  have HB2 : Hid (Below w.heap.size w w2) := HB1.out.trans (hb2.mono HB1.out.size)
  have HD2 : Hid (DA w2 D M L hf P es) := HD.out.1.kept HB2.out
  clear hb2 HB1
  cases hc : fd es (k1, k2) with
  | none =>
    simp only [fp]
    go_wp2
    go_ret2
    exact ⟨by rw [hc]; rfl, HB2.out⟩
  | some e =>
    have cv := HD2.out.valc (fd_some hc).1
    simp only [fp]
    go_wp2
    go_ret2
    exact ⟨by rw [hc]; rfl, HB2.out⟩

theorem hp_ptr (l : List En) : ∃ o, hp l = .pointer o := by cases l with | nil => exact ⟨_, rfl⟩ | cons e l => exact ⟨_, rfl⟩
theorem lp_ptr (l : List En) : ∃ o, lp l = .pointer o := by
  unfold lp
  split <;> exact ⟨_, rfl⟩
/-- a partition's, none if there is no such one -/
def ptI (P : Nat) (p : Int) (es : List En) : List En := if 0 ≤ p ∧ p < P then pt p.toNat es else []
theorem DA.linec {w : World} {D M L P : Nat} {hf : Value} {es : List En} (h : DA w D M L hf P es) {p : Nat} (hp0 : p < P) : w.cell? ⟨L, p * 3, none⟩ = some (hp (pt p es)) ∧ w.cell? ⟨L, p * 3 + 1, none⟩ = some (lp (pt p es)) ∧ w.cell? ⟨L, p * 3 + 2, none⟩ = some (.int .i64 ((pt p es).length : Int)) := by
  obtain ⟨C, h1, _, h2⟩ := h.ln
  obtain ⟨a, b, c⟩ := h2 p hp0
  rw [Nat.mul_comm] at a b c
  refine ⟨?_, ?_, ?_⟩ <;> rw [World.cell?, h1]
  · exact a
  · exact b
  · exact c
set_option maxRecDepth 100000 in
set_option maxHeartbeats 1000000 in
theorem line_any (w : World) (D M L P : Nat) (hf : Value) (es : List En) (p : Int) (h : DA w D M L hf P es) :
    Calls Tryz.prog 80 #[ptr D, .int .i64 p] w fun e w' => e = .returned (.agg #[hp (ptI P p es), lp (ptI P p es), .int .i64 ((ptI P p es).length : Int)]) ∧ Below w.heap.size w w' := by
  have HB1 : Hid (Below w.heap.size w (w.alloc (.cells #[.pointer none, .pointer none, .int .i64 0] 135))) := (Below.refl _ _).alloc (Nat.le_refl _) _
  have HD : Hid (DA (w.alloc (.cells #[.pointer none, .pointer none, .int .i64 0] 135)) D M L hf P es) := h.kept HB1.out
  obtain ⟨_, _, c2⟩ := HD.out.cells
  clear h
  go_enter Tryz.func80, Tryz.ntmps80
  by_cases h0 : p < 0
  · have e1 : ptI P p es = [] := by unfold ptI; rw [if_neg (by omega)]
    rw [e1]
    go_wp2
    refine bodyPost_ret (v := .agg #[.pointer none, .pointer none, .int .i64 0]) (by simp [results, Tryz.results80, go_sem]) rfl ?_
    exact ⟨rfl, HB1.out⟩
  · by_cases h1 : p < P
    · obtain ⟨q, rfl⟩ : ∃ q : Nat, p = (q : Int) := ⟨p.toNat, by omega⟩
      obtain ⟨l1, l2, l3⟩ := HD.out.linec (p := q) (by omega)
      have e1 : ptI P (q : Int) es = pt q es := by unfold ptI; rw [if_pos ⟨by omega, h1⟩]; rfl
      rw [e1]
      have HB2 : ∀ u, Hid (Below w.heap.size w (w.alloc (.cells u 135))) := fun u => (Below.refl _ _).alloc (Nat.le_refl _) _
      obtain ⟨v1, hv1⟩ := hp_ptr (pt q es)
      obtain ⟨v2, hv2⟩ := lp_ptr (pt q es)
      rw [hv1] at l1 ⊢
      rw [hv2] at l2 ⊢
      generalize (pt q es).length = v3 at *
      clear hv1 hv2
      go_wp2
      refine bodyPost_ret (v := .agg #[.pointer v1, .pointer v2, .int .i64 v3]) (by simp [results, Tryz.results80, go_sem]) rfl ?_
      exact ⟨rfl, (HB2 _).out⟩
    · have e1 : ptI P p es = [] := by unfold ptI; rw [if_neg (by omega)]
      rw [e1]
      go_wp2
      refine bodyPost_ret (v := .agg #[.pointer none, .pointer none, .int .i64 0]) (by simp [results, Tryz.results80, go_sem]) rfl ?_
      exact ⟨rfl, HB1.out⟩

theorem DA.len {w : World} {D M L P : Nat} {hf : Value} {es : List En} (h : DA w D M L hf P es) (ty : TypeId) : (Builtin.len_ #[92] ty #[.map (some M)]).run Tryz.prog w = .ok (.int .i64 (es.length : Int)) w := by
  obtain ⟨ms, c, h1, h2⟩ := h.mp
  have e1 : ms.size = es.length := by have := congrArg List.length h2; simpa using this
  simp [Builtin.len_, run_underlying Tryz.underlying92, MapKept.run_getObj_map h1, goInt, Result.andThen, e1]
end Go.Proofs.YtbcmmeajglilbaaGreat
/-
  New.
-/
namespace Go.Proofs.YtbcmmeajglilbaaGreat
open Go.RowKit Go.Sort

theorem infoLn : (Tryz.prog.info? 135).map (fun i => (i.zero, i.size, i.bytes)) = some (some (.agg #[.pointer none, .pointer none, .int .i64 0]), 3, 24) := by kernel_rfl
def zLn (n : Nat) : Array Value := madeCells #[.pointer none, .pointer none, .int .i64 0] (n * 3)
theorem make_lines (c : Nat) (hc : c ≤ 256) (u : World) : (Instr.makeSlice 93 (.int .i64 (c : Int)) (.int .i64 (c : Int))).run Tryz.prog u = .ok (.slice (some ⟨u.heap.size, 0, none⟩) c c) (u.alloc (.cells (zLn c) 135)) := by
  obtain ⟨i0, hi, hz0, hz1, hz2⟩ := info_parts infoLn
  have h := run_make (P := Tryz.prog) u 93 135 i0 (.agg #[.pointer none, .pointer none, .int .i64 0]) Tryz.underlying93 hi hz0 .i64 .i64 (c : Int) (c : Int) (by omega) (Int.le_refl _) (by rw [hz2]; omega) (by omega)
  rw [hz1, Int.toNat_natCast] at h
  exact h
theorem zLn_at (n p : Nat) (hp : p < n) : (zLn n)[3 * p]? = some (.pointer none) ∧ (zLn n)[3 * p + 1]? = some (.pointer none) ∧ (zLn n)[3 * p + 2]? = some (.int .i64 0) := by
  have e0 : 3 * p % 3 = 0 := by omega
  have e1 : (3 * p + 1) % 3 = 1 := by omega
  have e2 : (3 * p + 2) % 3 = 2 := by omega
  refine ⟨?_, ?_, ?_⟩ <;> simp only [zLn, madeCells, Array.getElem?_map, Array.getElem?_range]
  · rw [if_pos (by omega)]; simp [e0]
  · rw [if_pos (by omega)]; simp [e1]
  · rw [if_pos (by omega)]; simp [e2]
theorem DA.new (w : World) (hf : Value) (n : Nat) (h1 : 1 ≤ n) (h2 : n ≤ 256) : DA (((w.alloc (.cells #[hf, .map (some (w.heap.size + 1)), .slice (some ⟨w.heap.size + 1 + 1, 0, none⟩) n n] 95)).alloc (.map #[] 0)).alloc (.cells (zLn n) 135)) w.heap.size (w.heap.size + 1) (w.heap.size + 1 + 1) hf n [] := by
  refine ⟨(heap_alloc_old _ _ (by simp; omega)).trans ((heap_alloc_old _ _ (by simp)).trans (heap_alloc_new _ _ rfl)), ⟨#[], 0, (heap_alloc_old _ _ (by simp)).trans (heap_alloc_new _ _ (by simp)), rfl⟩, ⟨zLn n, heap_alloc_new _ _ (by simp), by simp [zLn, size_madeCells]; omega, fun p hp => zLn_at n p hp⟩, fun A e C h => by simp at h, by simp, by simp, by simp, h1, h2⟩
abbrev hfn (f : Nat) : Value := .func (.func f) #[] #[]
/-- a hash function -/
def HashOK (f : Nat) (h : K → Nat) : Prop := ∀ (w : World) (k1 k2 : Int), Calls Tryz.prog f #[.agg #[.int .i64 k1, .int .i64 k2]] w fun e w' => e = .returned (.int .u64 ((h (k1, k2) : Nat) : Int)) ∧ Grew w w'
def hash0 (_ : K) : Nat := 0
theorem hash_nil : HashOK 42 hash0 := by
  intro w k1 k2
  go_enter Tryz.func42, Tryz.ntmps42
  go_wp2
  go_ret
  exact ⟨rfl, (Grew.refl w).alloc _⟩
set_option maxRecDepth 100000 in
set_option maxHeartbeats 1000000 in
theorem new_nil (w : World) (n : Nat) (h1 : 1 ≤ n) (h2 : n ≤ 256) :
    Calls Tryz.prog 10 #[.int .i64 (n : Int), .nilFunc] w fun e w' => ∃ D M L, e = .returned (.tuple #[ptr D, .int .i64 0]) ∧ DA w' D M L (hfn 42) n [] ∧ (w.heap.size ≤ D ∧ w.heap.size ≤ M ∧ w.heap.size ≤ L) ∧ Below w.heap.size w w' := by
  have heq : ∀ w : World, (binOp .eql 58 .nilFunc .nilFunc).run Tryz.prog w = .ok (.bool true) w := fun _ => by kernel_rfl
  have hmk : ∀ w : World, (Instr.makeMap 92 none).run Tryz.prog w = .ok (.map (some w.heap.size)) (w.alloc (.map #[] 0)) := fun w => by
    simp [Instr.makeMap, Result.andThen]
  have HD : Hid (DA _ _ _ _ _ _ _) := DA.new w (hfn 42) n h1 h2
  go_enter Tryz.func10, Tryz.ntmps10
  have hml := fun u => make_lines n h2 u
  go_wp2
  go_ret2
  exact ⟨_, _, _, rfl, HD.out, ⟨by omega, by omega, by omega⟩, (((Below.refl _ _).alloc (Nat.le_refl _) _).alloc (by simp) _).alloc (by simp; omega) _⟩
theorem run_eqFn (f : Nat) (w : World) : (binOp .eql 58 (hfn f) .nilFunc).run Tryz.prog w = .ok (.bool false) w := by
  have h : (Op.equal 58 (hfn f) .nilFunc).run Tryz.prog w = .ok false w := by
    have : ∀ d, (Op.equalIn (d + 1) 58 (hfn f) .nilFunc).run Tryz.prog w = .ok false w := fun d => by simp [Op.equalIn, run_underlying Tryz.underlying58]
    exact this 9999
  simp only [binOp]
  simp [h]
set_option maxRecDepth 100000 in
set_option maxHeartbeats 1000000 in
theorem new_fn (w : World) (f n : Nat) (h1 : 1 ≤ n) (h2 : n ≤ 256) :
    Calls Tryz.prog 10 #[.int .i64 (n : Int), hfn f] w fun e w' => ∃ D M L, e = .returned (.tuple #[ptr D, .int .i64 0]) ∧ DA w' D M L (hfn f) n [] ∧ (w.heap.size ≤ D ∧ w.heap.size ≤ M ∧ w.heap.size ≤ L) ∧ Below w.heap.size w w' := by
  have heq := run_eqFn f
  have hmk : ∀ w : World, (Instr.makeMap 92 none).run Tryz.prog w = .ok (.map (some w.heap.size)) (w.alloc (.map #[] 0)) := fun w => by
    simp [Instr.makeMap, Result.andThen]
  have HD : Hid (DA _ _ _ _ _ _ _) := DA.new w (hfn f) n h1 h2
  go_enter Tryz.func10, Tryz.ntmps10
  have hml := fun u => make_lines n h2 u
  go_wp2
  go_ret2
  exact ⟨_, _, _, rfl, HD.out, ⟨by omega, by omega, by omega⟩, (((Below.refl _ _).alloc (Nat.le_refl _) _).alloc (by simp) _).alloc (by simp; omega) _⟩

end Go.Proofs.YtbcmmeajglilbaaGreat
/-
  Part, AT EACH HASH FUNCTION.
-/
namespace Go.Proofs.YtbcmmeajglilbaaGreat
open Go.RowKit Go.Sort

set_option maxRecDepth 100000 in
set_option maxHeartbeats 1000000 in
theorem part_nil (hh : K → Nat) (hok : HashOK 42 hh) (h64 : ∀ k, hh k < 18446744073709551616) (w : World) (D M L P : Nat) (es : List En) (k : K) (h : DA w D M L (hfn 42) P es) :
    Calls Tryz.prog 70 #[ptr D, kv k] w fun e w' => e = .returned (.int .i64 ((hh k % P : Nat) : Int)) ∧ Below w.heap.size w w' := by
  obtain ⟨k1, k2⟩ := k
  have HB1 : Hid (Below w.heap.size w (w.alloc (.cells #[.int .i64 k1, .int .i64 k2] 41))) := (Below.refl _ _).alloc (Nat.le_refl _) _
  have HD : Hid (DA (w.alloc (.cells #[.int .i64 k1, .int .i64 k2] 41)) D M L (hfn 42) P es) := h.kept HB1.out
  have hP := h.P0
  have hlt := h64 (k1, k2)
  have HK : Hid (∀ w, Calls Tryz.prog 42 #[.agg #[.int .i64 k1, .int .i64 k2]] w fun e w' => e = .returned (.int .u64 ((hh (k1, k2) : Nat) : Int)) ∧ Grew w w') := fun w => hok w k1 k2
  generalize hh (k1, k2) = hv at *
  have HDv : Hid (((hv : Nat) : Int) % (P : Int) = ((hv % P : Nat) : Int)) := by rw [Hid]; simp
  have hm : (hv : Int) % (P : Int) < 256 := by have := Int.emod_lt_of_pos (hv : Int) (show (0 : Int) < P by omega); omega
  have hm0 : 0 ≤ (hv : Int) % (P : Int) := Int.emod_nonneg _ (by omega)
  obtain ⟨c0, _, c2⟩ := HD.out.cells
  clear h hok h64
  go_enter Tryz.func70, Tryz.ntmps70
  go_wp2_with fail
  have b0 : (w.alloc (.cells #[.int .i64 k1, .int .i64 k2] 41)).cell? ⟨w.heap.size, 0, none⟩ = some (.int .i64 k1) := by rw [World.cell?, heap_alloc_new _ _ rfl]; rfl
  have b1 : (w.alloc (.cells #[.int .i64 k1, .int .i64 k2] 41)).cell? ⟨w.heap.size, 1, none⟩ = some (.int .i64 k2) := by rw [World.cell?, heap_alloc_new _ _ rfl]; rfl
  generalize w.alloc (.cells #[.int .i64 k1, .int .i64 k2] 41) = W1 at *
  have g0 : ∀ m os, (grow (W1.drewN m) os).cell? ⟨D, 0, none⟩ = some (hfn 42) := fun m os => Grew.cell ⟨m, os, rfl⟩ c0
  have g2 : ∀ m os, (grow (W1.drewN m) os).cell? ⟨D, 2, none⟩ = some (.slice (some ⟨L, 0, none⟩) P P) := fun m os => Grew.cell ⟨m, os, rfl⟩ c2
  have e0 : ∀ m os, (grow (W1.drewN m) os).cell? ⟨w.heap.size, 0, none⟩ = some (.int .i64 k1) := fun m os => Grew.cell ⟨m, os, rfl⟩ b0
  have e1 : ∀ m os, (grow (W1.drewN m) os).cell? ⟨w.heap.size, 1, none⟩ = some (.int .i64 k2) := fun m os => Grew.cell ⟨m, os, rfl⟩ b1
  clear c0 c2 b0 b1
  refine wp_region_quiet_grown mixed (by kernel_rfl) ?_
  repeat (go_big_quiet_step (exact Calls.grown_of (HK.out _)))
  refine wpQuiet_nil ?_
  intro _ hw'
  obtain ⟨⟨nq, osq⟩, hw''⟩ := hw'
  subst hw''
  have HF : Hid (Below w.heap.size w (grow (W1.drewN nq) osq)) := HB1.out.trans ((Grew.below ⟨nq, osq, rfl⟩).mono HB1.out.size)
  go_wp2
  go_ret
  exact ⟨by rw [← HDv.out]; rfl, HF.out⟩
end Go.Proofs.YtbcmmeajglilbaaGreat
/-
  add: AN ENTRY BEHIND ALL OTHERS.
-/
namespace Go.Proofs.YtbcmmeajglilbaaGreat
open Go.RowKit Go.Sort

abbrev TL : TypeId := 135
abbrev TE : TypeId := 133
theorem blk_set {w : World} {b i : Nat} {cs : Array Value} {t : TypeId} (v : Value) (h : w.heap[b]? = some (.cells cs t (0, 0))) : (w.setCell ⟨b, i, none⟩ v).heap[b]? = some (.cells (cs.setIfInBounds i v) t (0, 0)) := heap_setCell_same w b i cs t v h
theorem blk_oth {w : World} {b c i : Nat} {o : Option Obj} (v : Value) (h : w.heap[c]? = o) (hne : c ≠ b) : (w.setCell ⟨b, i, none⟩ v).heap[c]? = o := (heap_setCell_other w ⟨b, i, none⟩ c v hne).trans h
theorem blk_cell {w : World} {b i : Nat} {cs : Array Value} {t : TypeId} {v : Value} (h : w.heap[b]? = some (.cells cs t (0, 0))) (hv : cs[i]? = some v) : w.cell? ⟨b, i, none⟩ = some v := by rw [World.cell?, h]; exact hv
theorem set_get {cs : Array Value} {i j : Nat} {v u : Value} (h : cs[j]? = some u) (hne : i ≠ j) : (cs.setIfInBounds i v)[j]? = some u := by rw [Array.getElem?_setIfInBounds_ne hne]; exact h
theorem set_same {cs : Array Value} {i : Nat} {v u : Value} (h : cs[i]? = some u) : (cs.setIfInBounds i v)[i]? = some v := by
  rw [Array.getElem?_setIfInBounds_self, if_pos (Array.getElem?_eq_some_iff.1 h).1]

set_option maxRecDepth 100000 in
set_option maxHeartbeats 1000000 in
theorem add_first (w : World) (L p E n : Nat) (C : Array Value) (f : Option Addr) (a b : Int) (c : Nat) (d : Int) (x y : Option Addr) (hL : w.heap[L]? = some (.cells C TL (0, 0))) (h0 : C[p]? = some (.pointer f)) (h1 : C[p + 1]? = some (.pointer none)) (h2 : C[p + 2]? = some (.int .i64 (n : Int)))
    (hn : n ≤ 140737488355328) (hE : w.heap[E]? = some (.cells #[.int .i64 a, .int .i64 b, ptr c, .int .i64 d, .pointer x, .pointer y] TE (0, 0))) (hne : E ≠ L) :
    Calls Tryz.prog 71 #[.pointer (some ⟨L, p, none⟩), ptr E] w fun e w' => e = .returned (.tuple #[]) ∧ w' = (((w.setCell ⟨E, 4, none⟩ (.pointer none)).setCell ⟨L, p, none⟩ (ptr E)).setCell ⟨L, p + 1, none⟩ (ptr E)).setCell ⟨L, p + 2, none⟩ (.int .i64 ((n : Int) + 1)) := by
  have c1 := blk_cell hL h1
  have cE : w.cell? ⟨E, 4, none⟩ = some (.pointer x) := blk_cell hE rfl
  have fE := frozen_of_row w E 4 _ _ hE
  have L1 := blk_oth (b := E) (i := 4) (.pointer none) hL (Ne.symm hne)
  have c1' := blk_cell L1 h1
  have c0' := blk_cell L1 h0
  have fL0 := frozen_of_row _ L p _ _ L1
  have L2 := blk_set (i := p) (ptr E) L1
  have c1'' := blk_cell L2 (set_get (v := ptr E) h1 (by omega))
  have fL1 := frozen_of_row _ L (p + 1) _ _ L2
  have L3 := blk_set (i := p + 1) (ptr E) L2
  have c2'' := blk_cell L3 (set_get (v := ptr E) (set_get (v := ptr E) (i := p) h2 (by omega)) (by omega))
  have fL2 := frozen_of_row _ L (p + 2) _ _ L3
  clear hL hE L1 L2 L3 h0 h1 h2
  go_enter Tryz.func71, Tryz.ntmps71
  go_wp2
  go_end0
  exact ⟨rfl, rfl⟩
set_option maxRecDepth 100000 in
set_option maxHeartbeats 1000000 in
theorem add_more (w : World) (L p E T n : Nat) (C : Array Value) (a b : Int) (c : Nat) (d : Int) (a' b' : Int) (c' : Nat) (d' : Int) (x y x' y' : Option Addr) (hL : w.heap[L]? = some (.cells C TL (0, 0))) (h1 : C[p + 1]? = some (ptr T)) (h2 : C[p + 2]? = some (.int .i64 (n : Int)))
    (hn : n ≤ 140737488355328) (hE : w.heap[E]? = some (.cells #[.int .i64 a, .int .i64 b, ptr c, .int .i64 d, .pointer x, .pointer y] TE (0, 0))) (hT : w.heap[T]? = some (.cells #[.int .i64 a', .int .i64 b', ptr c', .int .i64 d', .pointer x', .pointer y'] TE (0, 0))) (hne : E ≠ L) (hnT : T ≠ L) (hTE : T ≠ E) :
    Calls Tryz.prog 71 #[.pointer (some ⟨L, p, none⟩), ptr E] w fun e w' => e = .returned (.tuple #[]) ∧ w' = (((w.setCell ⟨E, 4, none⟩ (ptr T)).setCell ⟨T, 5, none⟩ (ptr E)).setCell ⟨L, p + 1, none⟩ (ptr E)).setCell ⟨L, p + 2, none⟩ (.int .i64 ((n : Int) + 1)) := by
  have c1 := blk_cell hL h1
  have cE : w.cell? ⟨E, 4, none⟩ = some (.pointer x) := blk_cell hE rfl
  have fE := frozen_of_row w E 4 _ _ hE
  have L1 := blk_oth (b := E) (i := 4) (ptr T) hL (Ne.symm hne)
  have T1 := blk_oth (b := E) (i := 4) (ptr T) hT hTE
  have c1' := blk_cell L1 h1
  have ct : (w.setCell ⟨E, 4, none⟩ (ptr T)).cell? ⟨T, 5, none⟩ = some (.pointer y') := blk_cell T1 rfl
  have ft := frozen_of_row _ T 5 _ _ T1
  have L2 := blk_oth (b := T) (i := 5) (ptr E) L1 (Ne.symm hnT)
  have c1'' := blk_cell L2 h1
  have fL1 := frozen_of_row _ L (p + 1) _ _ L2
  have L3 := blk_set (i := p + 1) (ptr E) L2
  have c2'' := blk_cell L3 (set_get (v := ptr E) h2 (by omega))
  have fL2 := frozen_of_row _ L (p + 2) _ _ L3
  clear hL hE hT T1 L1 L2 L3 h1 h2
  go_enter Tryz.func71, Tryz.ntmps71
  go_wp2
  go_end0
  exact ⟨rfl, rfl⟩
end Go.Proofs.YtbcmmeajglilbaaGreat
/-
  drop: AN ENTRY OUT OF ITS LINE.
-/
namespace Go.Proofs.YtbcmmeajglilbaaGreat
open Go.RowKit Go.Sort

set_option maxRecDepth 100000 in
set_option maxHeartbeats 1000000 in
theorem drop_one (w : World) (L p E n : Nat) (C : Array Value) (f : Option Addr) (g : Option Addr) (a b : Int) (c : Nat) (d : Int) (hL : w.heap[L]? = some (.cells C TL (0, 0))) (h0 : C[p]? = some (.pointer f)) (h1 : C[p + 1]? = some (.pointer g)) (h2 : C[p + 2]? = some (.int .i64 (n : Int))) (hn : 1 ≤ n ∧ n ≤ 140737488355328) (hE : w.heap[E]? = some (.cells #[.int .i64 a, .int .i64 b, ptr c, .int .i64 d, .pointer none, .pointer none] TE (0, 0))) (hne : E ≠ L) :
    Calls Tryz.prog 75 #[.pointer (some ⟨L, p, none⟩), ptr E] w fun e w' => e = .returned (.tuple #[]) ∧ w' = ((w.setCell ⟨L, p, none⟩ (.pointer none)).setCell ⟨L, p + 1, none⟩ (.pointer none)).setCell ⟨L, p + 2, none⟩ (.int .i64 ((n : Int) - 1)) := by
  have e4 : w.cell? ⟨E, 4, none⟩ = some (.pointer none) := blk_cell hE rfl
  have e5 : w.cell? ⟨E, 5, none⟩ = some (.pointer none) := blk_cell hE rfl
  have k1 : w.cell? ⟨L, p, none⟩ = some (.pointer f) := blk_cell hL h0
  have f1 := frozen_of_row w L p _ _ hL
  have E1 := blk_oth (b := L) (i := p) (.pointer none) hE hne
  have L1 := blk_set (i := p) (.pointer none) hL
  have e4' : (w.setCell ⟨L, p, none⟩ (.pointer none)).cell? ⟨E, 4, none⟩ = some (.pointer none) := blk_cell E1 rfl
  have e5' : (w.setCell ⟨L, p, none⟩ (.pointer none)).cell? ⟨E, 5, none⟩ = some (.pointer none) := blk_cell E1 rfl
  have k2 := blk_cell L1 (set_get (v := .pointer none) h1 (by omega))
  have f2 := frozen_of_row _ L (p + 1) _ _ L1
  have L2 := blk_set (i := p + 1) (.pointer none) L1
  have k3 := blk_cell L2 (set_get (v := .pointer none) (i := p + 1) (set_get (v := .pointer none) (i := p) h2 (by omega)) (by omega))
  have f3 := frozen_of_row _ L (p + 2) _ _ L2
  clear hL hE E1 L1 L2 h0 h1 h2
  go_enter Tryz.func75, Tryz.ntmps75
  go_wp2
  go_end0
  exact ⟨rfl, rfl⟩
set_option maxRecDepth 100000 in
set_option maxHeartbeats 1000000 in
theorem drop_first (w : World) (L p E B n : Nat) (C : Array Value) (f : Option Addr) (a b : Int) (c : Nat) (d : Int) (hL : w.heap[L]? = some (.cells C TL (0, 0))) (h0 : C[p]? = some (.pointer f)) (h2 : C[p + 2]? = some (.int .i64 (n : Int))) (hn : 1 ≤ n ∧ n ≤ 140737488355328) (hE : w.heap[E]? = some (.cells #[.int .i64 a, .int .i64 b, ptr c, .int .i64 d, .pointer none, ptr B] TE (0, 0))) (hne : E ≠ L) (a2 b2 : Int) (c2 : Nat) (d2 : Int) (x2 y2 : Option Addr) (hB : w.heap[B]? = some (.cells #[.int .i64 a2, .int .i64 b2, ptr c2, .int .i64 d2, .pointer x2, .pointer y2] TE (0, 0))) (nBL : B ≠ L) :
    Calls Tryz.prog 75 #[.pointer (some ⟨L, p, none⟩), ptr E] w fun e w' => e = .returned (.tuple #[]) ∧ ∃ q, w' = (((w.setCell ⟨L, p, none⟩ (ptr B)).setCell ⟨B, 4, none⟩ (.pointer none)).setCell ⟨L, p + 2, none⟩ (.int .i64 ((n : Int) - 1))).drewN q := by
  have e4 : w.cell? ⟨E, 4, none⟩ = some (.pointer none) := blk_cell hE rfl
  have e5 : w.cell? ⟨E, 5, none⟩ = some (ptr B) := blk_cell hE rfl
  have k1 : w.cell? ⟨L, p, none⟩ = some (.pointer f) := blk_cell hL h0
  have f1 := frozen_of_row w L p _ _ hL
  have E1 := blk_oth (b := L) (i := p) (ptr B) hE hne
  have L1 := blk_set (i := p) (ptr B) hL
  have B1 := blk_oth (b := L) (i := p) (ptr B) hB nBL
  have e4' : (w.setCell ⟨L, p, none⟩ (ptr B)).cell? ⟨E, 4, none⟩ = some (.pointer none) := blk_cell E1 rfl
  have e5' : (w.setCell ⟨L, p, none⟩ (ptr B)).cell? ⟨E, 5, none⟩ = some (ptr B) := blk_cell E1 rfl
  have k2 : (w.setCell ⟨L, p, none⟩ (ptr B)).cell? ⟨B, 4, none⟩ = some (.pointer x2) := blk_cell B1 rfl
  have f2 := frozen_of_row _ B 4 _ _ B1
  have L2 := blk_oth (b := B) (i := 4) (.pointer none) L1 (Ne.symm nBL)
  have k3 := blk_cell L2 (set_get (v := ptr B) (i := p) h2 (by omega))
  have f3 := frozen_of_row _ L (p + 2) _ _ L2
  clear hL hE E1 L1 L2 h0 h2 hB B1
  go_enter Tryz.func75, Tryz.ntmps75
  go_wp2_with fail
  go_region
  all_goals (
    go_wp2
    go_end0
    exact ⟨rfl, 1, rfl⟩)
set_option maxRecDepth 100000 in
set_option maxHeartbeats 1000000 in
theorem drop_last (w : World) (L p E A n : Nat) (C : Array Value) (g : Option Addr) (a b : Int) (c : Nat) (d : Int) (hL : w.heap[L]? = some (.cells C TL (0, 0))) (h1 : C[p + 1]? = some (.pointer g)) (h2 : C[p + 2]? = some (.int .i64 (n : Int))) (hn : 1 ≤ n ∧ n ≤ 140737488355328) (hE : w.heap[E]? = some (.cells #[.int .i64 a, .int .i64 b, ptr c, .int .i64 d, ptr A, .pointer none] TE (0, 0))) (a1 b1 : Int) (c1 : Nat) (d1 : Int) (x1 y1 : Option Addr) (hA : w.heap[A]? = some (.cells #[.int .i64 a1, .int .i64 b1, ptr c1, .int .i64 d1, .pointer x1, .pointer y1] TE (0, 0))) (nAL : A ≠ L) (nAE : A ≠ E) :
    Calls Tryz.prog 75 #[.pointer (some ⟨L, p, none⟩), ptr E] w fun e w' => e = .returned (.tuple #[]) ∧ ∃ q, w' = (((w.setCell ⟨A, 5, none⟩ (.pointer none)).setCell ⟨L, p + 1, none⟩ (ptr A)).setCell ⟨L, p + 2, none⟩ (.int .i64 ((n : Int) - 1))).drewN q := by
  have e4 : w.cell? ⟨E, 4, none⟩ = some (ptr A) := blk_cell hE rfl
  have e5 : w.cell? ⟨E, 5, none⟩ = some (.pointer none) := blk_cell hE rfl
  have k1 : w.cell? ⟨A, 5, none⟩ = some (.pointer y1) := blk_cell hA rfl
  have f1 := frozen_of_row w A 5 _ _ hA
  have E1 := blk_oth (b := A) (i := 5) (.pointer none) hE (Ne.symm nAE)
  have L1 := blk_oth (b := A) (i := 5) (.pointer none) hL (Ne.symm nAL)
  have e4' : (w.setCell ⟨A, 5, none⟩ (.pointer none)).cell? ⟨E, 4, none⟩ = some (ptr A) := blk_cell E1 rfl
  have e5' : (w.setCell ⟨A, 5, none⟩ (.pointer none)).cell? ⟨E, 5, none⟩ = some (.pointer none) := blk_cell E1 rfl
  have k2 := blk_cell L1 h1
  have f2 := frozen_of_row _ L (p + 1) _ _ L1
  have L2 := blk_set (i := p + 1) (ptr A) L1
  have k3 := blk_cell L2 (set_get (v := ptr A) (i := p + 1) h2 (by omega))
  have f3 := frozen_of_row _ L (p + 2) _ _ L2
  clear hL hE E1 L1 L2 h1 h2 hA
  go_enter Tryz.func75, Tryz.ntmps75
  go_wp2_with fail
  go_region
  all_goals (
    go_wp2
    go_end0
    exact ⟨rfl, 1, rfl⟩)
set_option maxRecDepth 100000 in
set_option maxHeartbeats 1000000 in
theorem drop_mid (w : World) (L p E A B n : Nat) (C : Array Value) (a b : Int) (c : Nat) (d : Int) (hL : w.heap[L]? = some (.cells C TL (0, 0))) (h2 : C[p + 2]? = some (.int .i64 (n : Int))) (hn : 1 ≤ n ∧ n ≤ 140737488355328) (hE : w.heap[E]? = some (.cells #[.int .i64 a, .int .i64 b, ptr c, .int .i64 d, ptr A, ptr B] TE (0, 0))) (a1 b1 : Int) (c1 : Nat) (d1 : Int) (x1 y1 : Option Addr) (hA : w.heap[A]? = some (.cells #[.int .i64 a1, .int .i64 b1, ptr c1, .int .i64 d1, .pointer x1, .pointer y1] TE (0, 0))) (nAL : A ≠ L) (nAE : A ≠ E) (a2 b2 : Int) (c2 : Nat) (d2 : Int) (x2 y2 : Option Addr) (hB : w.heap[B]? = some (.cells #[.int .i64 a2, .int .i64 b2, ptr c2, .int .i64 d2, .pointer x2, .pointer y2] TE (0, 0))) (nBL : B ≠ L) (nAB : A ≠ B) :
    Calls Tryz.prog 75 #[.pointer (some ⟨L, p, none⟩), ptr E] w fun e w' => e = .returned (.tuple #[]) ∧ ∃ q, w' = (((w.setCell ⟨A, 5, none⟩ (ptr B)).setCell ⟨B, 4, none⟩ (ptr A)).setCell ⟨L, p + 2, none⟩ (.int .i64 ((n : Int) - 1))).drewN q := by
  have e4 : w.cell? ⟨E, 4, none⟩ = some (ptr A) := blk_cell hE rfl
  have e5 : w.cell? ⟨E, 5, none⟩ = some (ptr B) := blk_cell hE rfl
  have k1 : w.cell? ⟨A, 5, none⟩ = some (.pointer y1) := blk_cell hA rfl
  have f1 := frozen_of_row w A 5 _ _ hA
  have E1 := blk_oth (b := A) (i := 5) (ptr B) hE (Ne.symm nAE)
  have L1 := blk_oth (b := A) (i := 5) (ptr B) hL (Ne.symm nAL)
  have B1 := blk_oth (b := A) (i := 5) (ptr B) hB (Ne.symm nAB)
  have e4' : (w.setCell ⟨A, 5, none⟩ (ptr B)).cell? ⟨E, 4, none⟩ = some (ptr A) := blk_cell E1 rfl
  have e5' : (w.setCell ⟨A, 5, none⟩ (ptr B)).cell? ⟨E, 5, none⟩ = some (ptr B) := blk_cell E1 rfl
  have k2 : (w.setCell ⟨A, 5, none⟩ (ptr B)).cell? ⟨B, 4, none⟩ = some (.pointer x2) := blk_cell B1 rfl
  have f2 := frozen_of_row _ B 4 _ _ B1
  have L2 := blk_oth (b := B) (i := 4) (ptr A) L1 (Ne.symm nBL)
  have k3 := blk_cell L2 h2
  have f3 := frozen_of_row _ L (p + 2) _ _ L2
  clear hL hE E1 L1 L2 h2 hA hB B1
  go_enter Tryz.func75, Tryz.ntmps75
  go_wp2_with fail
  go_region
  all_goals (
    go_wp2_with fail
    go_region
    all_goals (
      go_wp2
      go_end0
      exact ⟨rfl, 2, rfl⟩))
end Go.Proofs.YtbcmmeajglilbaaGreat
/-
  LINES AS LISTS: an entry more, an entry less, a value changed.
-/
namespace Go.Proofs.YtbcmmeajglilbaaGreat
open Go.RowKit Go.Sort

theorem split_uniq {A A' C C' : List En} {t x : En} (hn : ((A ++ t :: C).map En.b).Nodup) (h : A ++ t :: C = A' ++ x :: C') (hb : t.b = x.b) : A = A' ∧ t = x ∧ C = C' := by
  induction A generalizing A' with
  | nil =>
    cases A' with
    | nil => simp at h; exact ⟨rfl, h.1, h.2⟩
    | cons a A' =>
      simp only [List.nil_append, List.cons_append, List.cons.injEq] at h
      obtain ⟨rfl, rfl⟩ := h
      exfalso
      simp only [List.nil_append, List.map_cons, List.map_append, List.nodup_cons] at hn
      exact hn.1 (by simp [hb])
  | cons a A ih =>
    cases A' with
    | nil =>
      simp only [List.nil_append, List.cons_append, List.cons.injEq] at h
      obtain ⟨rfl, rfl⟩ := h
      exfalso
      simp only [List.cons_append, List.map_cons, List.map_append, List.nodup_cons] at hn
      exact hn.1 (by simp [hb])
    | cons a' A' =>
      simp only [List.cons_append, List.cons.injEq] at h
      obtain ⟨rfl, h⟩ := h
      simp only [List.cons_append, List.map_cons, List.nodup_cons] at hn
      obtain ⟨h1, h2, h3⟩ := ih hn.2 h
      exact ⟨by rw [h1], h2, h3⟩
/-- the last of a partition -/
theorem last_split {p : Nat} {es : List En} (h : pt p es ≠ []) : ∃ A t C, es = A ++ t :: C ∧ t.p = p ∧ pt p C = [] := by
  induction es with
  | nil => exact absurd rfl h
  | cons e es ih =>
    by_cases h2 : pt p es = []
    · by_cases hp : e.p = p
      · exact ⟨[], e, es, rfl, hp, h2⟩
      · rw [pt_cons_other hp] at h; exact absurd h2 h
    · obtain ⟨A, t, C, rfl, h3, h4⟩ := ih h2
      exact ⟨e :: A, t, C, rfl, h3, h4⟩
/-- the first of a partition -/
theorem first_split {p : Nat} {es : List En} (h : pt p es ≠ []) : ∃ A t C, es = A ++ t :: C ∧ t.p = p ∧ pt p A = [] := by
  induction es with
  | nil => exact absurd rfl h
  | cons e es ih =>
    by_cases hp : e.p = p
    · exact ⟨[], e, es, rfl, hp, rfl⟩
    · rw [pt_cons_other hp] at h
      obtain ⟨A, t, C, rfl, h3, h4⟩ := ih h
      exact ⟨e :: A, t, C, rfl, h3, by rw [pt_cons_other hp]; exact h4⟩
theorem lp_last {p : Nat} {A C : List En} {t : En} (hp : t.p = p) (hC : pt p C = []) : lp (pt p (A ++ t :: C)) = ptr t.b := by
  rw [pt_append, pt_cons_same hp, hC, lp_snoc]
theorem hp_first {p : Nat} {A C : List En} {t : En} (hp' : t.p = p) (hA : pt p A = []) : hp (pt p (A ++ t :: C)) = ptr t.b := by
  rw [pt_append, pt_cons_same hp', hA]; rfl
theorem hp_append {X Y : List En} (h : X ≠ []) : hp (X ++ Y) = hp X := by
  cases X with
  | nil => exact absurd rfl h
  | cons x X => rfl
theorem lp_append {X Y : List En} (h : Y ≠ []) : lp (X ++ Y) = lp Y := by
  unfold lp
  rw [List.getLast?_append]
  cases hy : Y.getLast? with
  | none => rw [List.getLast?_eq_none_iff] at hy; exact absurd hy h
  | some y => rfl
theorem pt_ne {p : Nat} {A C : List En} {t : En} (hp : t.p = p) : pt p (A ++ t :: C) ≠ [] := by
  rw [pt_append, pt_cons_same hp]; simp
theorem snoc_split {es A C : List En} {e x : En} (h : es ++ [e] = A ++ x :: C) : (x = e ∧ A = es ∧ C = []) ∨ ∃ C', C = C' ++ [e] ∧ es = A ++ x :: C' := by
  rcases List.eq_nil_or_concat C with rfl | ⟨C', y, rfl⟩
  · have := List.append_inj' h rfl
    simp at this
    exact .inl ⟨this.2.symm, this.1.symm, rfl⟩
  · rw [List.concat_eq_append, ← List.cons_append, ← List.append_assoc] at h
    have := List.append_inj' h rfl
    simp only [List.cons.injEq, and_true] at this
    exact .inr ⟨C', by rw [List.concat_eq_append, this.2], this.1⟩
theorem mid_split {A C A' C' : List En} {x : En} (h : A ++ C = A' ++ x :: C') : (∃ A2, A = A' ++ x :: A2 ∧ C' = A2 ++ C) ∨ (∃ C1, C = C1 ++ x :: C' ∧ A' = A ++ C1) := by
  rcases List.append_eq_append_iff.1 h with ⟨Z, h1, h2⟩ | ⟨Z, h1, h2⟩
  · exact .inr ⟨Z, h2, h1⟩
  · cases Z with
    | nil => simp at h1 h2; subst h1; exact .inr ⟨[], by simp [h2], by simp⟩
    | cons z Z =>
      simp only [List.cons_append, List.cons.injEq] at h2
      obtain ⟨rfl, rfl⟩ := h2
      exact .inl ⟨Z, h1, rfl⟩
theorem ne_block {es : List En} {x y : En} (hn : (es.map En.b).Nodup) (hx : x ∈ es) (hy : y ∈ es) (hne : x ≠ y) : x.b ≠ y.b := by
  intro e
  obtain ⟨A, C, rfl⟩ := List.append_of_mem hx
  obtain ⟨A', C', h⟩ := List.append_of_mem hy
  exact hne (split_uniq hn h e).2.1

/-- an entry more -/
theorem DA.snoc {w w' : World} {D M L P : Nat} {hf : Value} {es : List En} (h : DA w D M L hf P es) (e : En) (he : e.p < P ∧ KIn e.k ∧ True) (hk : fd es e.k = none) (hb : ∀ x ∈ es, x.b ≠ e.b)
    (hD : w'.heap[D]? = w.heap[D]?) (hM : ∃ ms c, w'.heap[M]? = some (.map ms c) ∧ ms.toList.map (fun x => (x.key, x.val)) = (es ++ [e]).map (fun e => (kv e.k, ptr e.b)))
    (hL : ∃ C, w'.heap[L]? = some (.cells C TL (0, 0)) ∧ C.size = 3 * P ∧ ∀ p, p < P → C[3 * p]? = some (hp (pt p (es ++ [e]))) ∧ C[3 * p + 1]? = some (lp (pt p (es ++ [e]))) ∧ C[3 * p + 2]? = some (.int .i64 ((pt p (es ++ [e])).length : Int)))
    (hE : w'.heap[e.b]? = some (.cells (cellsE e (lp (pt e.p es)) (.pointer none)) TE (0, 0)))
    (ht : ∀ A t C, es = A ++ t :: C → t.p = e.p → pt e.p C = [] → w'.heap[t.b]? = some (.cells (cellsE t (lp (pt t.p A)) (ptr e.b)) TE (0, 0)))
    (ho : ∀ A x C, es = A ++ x :: C → ¬ (x.p = e.p ∧ pt e.p C = []) → w'.heap[x.b]? = w.heap[x.b]?) : DA w' D M L hf P (es ++ [e]) := by
  refine ⟨hD.trans h.dc, hM, hL, fun A x C hs => ?_, ?_, ?_, ?_, h.P0⟩
  · rcases snoc_split hs with ⟨rfl, rfl, rfl⟩ | ⟨C', rfl, he'⟩
    · exact hE
    · by_cases hx : x.p = e.p
      · by_cases hC : pt e.p C' = []
        · rw [ht A x C' he' hx hC, hx, pt_append, hC, pt_cons_same rfl]; rfl
        · rw [ho A x C' he' (fun hh => hC hh.2), h.en A x C' he', hx, pt_append, hp_append hC]
      · rw [ho A x C' he' (fun hh => hx hh.1), h.en A x C' he', pt_append, pt_cons_other (Ne.symm hx), pt_nil, List.append_nil]
  · rw [List.map_append, List.nodup_append]
    refine ⟨h.kn, by simp, fun a ha b hb' => ?_⟩
    simp at hb'
    subst hb'
    obtain ⟨x, hx, rfl⟩ := List.mem_map.1 ha
    exact fd_none hk x hx
  · rw [List.map_append, List.nodup_append]
    refine ⟨h.bn, by simp, fun a ha b hb' => ?_⟩
    simp at hb'
    subst hb'
    obtain ⟨x, hx, rfl⟩ := List.mem_map.1 ha
    exact hb x hx
  · intro x hx
    rcases List.mem_append.1 hx with hx | hx
    · exact h.pp x hx
    · simp at hx; subst hx; exact he
/-- an entry less -/
theorem DA.erase {w w' : World} {D M L P : Nat} {hf : Value} {A C : List En} {e : En} (h : DA w D M L hf P (A ++ e :: C))
    (hD : w'.heap[D]? = w.heap[D]?) (hM : ∃ ms c, w'.heap[M]? = some (.map ms c) ∧ ms.toList.map (fun x => (x.key, x.val)) = (A ++ C).map (fun e => (kv e.k, ptr e.b)))
    (hL : ∃ Z, w'.heap[L]? = some (.cells Z TL (0, 0)) ∧ Z.size = 3 * P ∧ ∀ p, p < P → Z[3 * p]? = some (hp (pt p (A ++ C))) ∧ Z[3 * p + 1]? = some (lp (pt p (A ++ C))) ∧ Z[3 * p + 2]? = some (.int .i64 ((pt p (A ++ C)).length : Int)))
    (hpre : ∀ A0 a A2, A = A0 ++ a :: A2 → a.p = e.p → pt e.p A2 = [] → w'.heap[a.b]? = some (.cells (cellsE a (lp (pt a.p A0)) (hp (pt e.p C))) TE (0, 0)))
    (hsuc : ∀ C1 c C2, C = C1 ++ c :: C2 → c.p = e.p → pt e.p C1 = [] → w'.heap[c.b]? = some (.cells (cellsE c (lp (pt e.p A)) (hp (pt c.p C2))) TE (0, 0)))
    (ho1 : ∀ A0 x A2, A = A0 ++ x :: A2 → ¬ (x.p = e.p ∧ pt e.p A2 = []) → w'.heap[x.b]? = w.heap[x.b]?)
    (ho2 : ∀ C1 x C2, C = C1 ++ x :: C2 → ¬ (x.p = e.p ∧ pt e.p C1 = []) → w'.heap[x.b]? = w.heap[x.b]?) : DA w' D M L hf P (A ++ C) := by
  have sub : ∀ {β : Type} (f : En → β), ((A ++ e :: C).map f).Nodup → ((A ++ C).map f).Nodup := fun f hn =>
    List.Sublist.nodup (List.Sublist.map f (List.Sublist.append (List.Sublist.refl A) (List.sublist_cons_self e C))) hn
  refine ⟨hD.trans h.dc, hM, hL, fun A' x C' hs => ?_, sub _ h.kn, sub _ h.bn, fun x hx => h.pp x (by rcases List.mem_append.1 hx with hx | hx <;> simp [hx]), h.P0⟩
  rcases mid_split hs with ⟨A2, rfl, rfl⟩ | ⟨C1, rfl, rfl⟩
  · have hen := h.en A' x (A2 ++ e :: C) (by simp)
    by_cases hx : x.p = e.p
    · by_cases h2 : pt e.p A2 = []
      · rw [hpre A' x A2 rfl hx h2, hx, pt_append, h2, List.nil_append]
      · rw [ho1 A' x A2 rfl (fun hh => h2 hh.2), hen, hx, pt_append, pt_append, hp_append h2, hp_append h2]
    · rw [ho1 A' x A2 rfl (fun hh => hx hh.1), hen, pt_append, pt_append, pt_cons_other (Ne.symm hx)]
  · have hen := h.en (A ++ e :: C1) x C' (by simp)
    by_cases hx : x.p = e.p
    · by_cases h2 : pt e.p C1 = []
      · rw [hsuc C1 x C' rfl hx h2, hx, pt_append, h2, List.append_nil]
      · rw [ho2 C1 x C' rfl (fun hh => h2 hh.2), hen, hx, pt_append, pt_append, pt_cons_same rfl, lp_append h2, lp_append (by simp)]
        rw [show e :: pt e.p C1 = [e] ++ pt e.p C1 from rfl, lp_append h2]
    · rw [ho2 C1 x C' rfl (fun hh => hx hh.1), hen, pt_append, pt_append, pt_cons_other (Ne.symm hx)]
end Go.Proofs.YtbcmmeajglilbaaGreat
/-
  Put OF A KEY THAT IS THERE.
-/
namespace Go.Proofs.YtbcmmeajglilbaaGreat
open Go.RowKit Go.Sort

def ud (k : K) (v : Nat) (e : En) : En := if e.k = k then { e with v := v } else e
theorem ud_b (k : K) (v : Nat) (e : En) : (ud k v e).b = e.b := by unfold ud; split <;> rfl
theorem ud_k (k : K) (v : Nat) (e : En) : (ud k v e).k = e.k := by unfold ud; split <;> rfl
theorem ud_p (k : K) (v : Nat) (e : En) : (ud k v e).p = e.p := by unfold ud; split <;> rfl
theorem hp_ud (k : K) (v : Nat) (l : List En) : hp (l.map (ud k v)) = hp l := by
  cases l with
  | nil => rfl
  | cons e l => simp [hp, ud_b]
theorem lp_ud (k : K) (v : Nat) (l : List En) : lp (l.map (ud k v)) = lp l := by
  unfold lp
  rw [List.getLast?_map]
  cases l.getLast? with
  | none => rfl
  | some e => simp [ud_b]
theorem pt_ud (k : K) (v : Nat) (p : Nat) (l : List En) : pt p (l.map (ud k v)) = (pt p l).map (ud k v) := by
  unfold pt
  rw [List.filter_map]
  congr 1
  apply List.filter_congr
  intro x _
  simp [ud_p]
theorem cellsE_ud (e : En) (v : Nat) (x y : Value) : (cellsE e x y).setIfInBounds 2 (ptr v) = cellsE { e with v := v } x y := by simp [cellsE]
theorem DA.upd {w : World} {D M L P : Nat} {hf : Value} {es : List En} (h : DA w D M L hf P es) {k : K} {e : En} (he : fd es k = some e) (v : Nat) (hv : True) : DA (w.setCell ⟨e.b, 2, none⟩ (ptr v)) D M L hf P (es.map (ud k v)) := by
  obtain ⟨hm, hk⟩ := fd_some he
  obtain ⟨x0, y0, hb0⟩ := h.entry hm
  have nD : D ≠ e.b := fun e' => by have := h.dc; rw [e', hb0] at this; cases this
  have nM : M ≠ e.b := fun e' => by obtain ⟨ms, c, h1, _⟩ := h.mp; rw [e', hb0] at h1; cases h1
  have nL : L ≠ e.b := fun e' => by obtain ⟨C, h1, _⟩ := h.ln; rw [e', hb0] at h1; cases h1
  refine ⟨blk_oth _ h.dc nD, ?_, ?_, fun A' x C' hs => ?_, ?_, ?_, fun x hx => ?_, h.P0⟩
  · obtain ⟨ms, c, h1, h2⟩ := h.mp
    refine ⟨ms, c, blk_oth _ h1 nM, h2.trans ?_⟩
    rw [List.map_map]
    apply List.map_congr_left
    intro x _
    simp [ud_k, ud_b]
  · obtain ⟨C, h1, h2, h3⟩ := h.ln
    refine ⟨C, blk_oth _ h1 nL, h2, fun p hp' => ?_⟩
    rw [pt_ud, hp_ud, lp_ud, List.length_map]
    exact h3 p hp'
  · obtain ⟨A, C0, rfl, rfl, h2⟩ := List.map_eq_append_iff.1 hs
    obtain ⟨y, C, rfl, rfl, rfl⟩ := List.map_eq_cons_iff.1 h2
    rw [pt_ud, pt_ud, lp_ud, hp_ud, ud_b, ud_p]
    have hen := h.en A y C rfl
    by_cases hy : y = e
    · subst hy
      rw [blk_set _ hen, cellsE_ud]
      congr 3
      unfold ud; rw [if_pos hk]
    · rw [blk_oth _ hen (ne_block h.bn (by simp) hm hy)]
      congr 3
      unfold ud
      rw [if_neg]
      intro hk2
      have h4 := fd_of h.kn (e := y) (by simp)
      rw [hk2, he] at h4
      exact hy (Option.some.inj h4).symm
  · rw [List.map_map, show (En.k ∘ ud k v) = En.k from funext fun x => ud_k k v x]; exact h.kn
  · rw [List.map_map, show (En.b ∘ ud k v) = En.b from funext fun x => ud_b k v x]; exact h.bn
  · obtain ⟨y, hy, rfl⟩ := List.mem_map.1 hx
    obtain ⟨h1, h2, h3⟩ := h.pp y hy
    rw [ud_p, ud_k]
    exact ⟨h1, h2, hv⟩

set_option maxRecDepth 100000 in
set_option maxHeartbeats 1000000 in
theorem put_old (w : World) (D M L P : Nat) (hf : Value) (es : List En) (k : K) (v : Nat) (h : DA w D M L hf P es) (hk : KIn k) (hv : True) (e0 : En) (he0 : fd es k = some e0) :
    Calls Tryz.prog 47 #[ptr D, kv k, ptr v] w fun e w' => e = .returned (.tuple #[ptr e0.v, .bool true]) ∧ DA w' D M L hf P (es.map (ud k v)) ∧ Fr (Ft M L es) w w' := by
  have HD : Hid (DA w D M L hf P es ∧ KIn k ∧ True) := ⟨h, hk, hv⟩
  have HE : Hid (fd es k = some e0) := he0
  clear h hk hv he0
  obtain ⟨k1, k2⟩ := k
  go_enter Tryz.func47, Tryz.ntmps47
  go_wp2_with fail
  have HB1 : Hid (Below w.heap.size w (w.alloc (.cells #[.int .i64 k1, .int .i64 k2] 41))) := (Below.refl _ _).alloc (Nat.le_refl _) _
  have HX1 : Hid ((w.alloc (.cells #[.int .i64 k1, .int .i64 k2] 41)).heap[w.heap.size]? = some (.cells #[.int .i64 k1, .int .i64 k2] 41 (0, 0))) := heap_alloc_new _ _ rfl
  generalize w.alloc (.cells #[.int .i64 k1, .int .i64 k2] 41) = W1 at *
  refine (isKey_any W1 (k1, k2)).mono ?_
  rintro e w2 ⟨rfl, hb2⟩
  have HB2 : Hid (Below w.heap.size w w2) := HB1.out.trans (hb2.mono HB1.out.size)
  have HX2 : Hid (w2.heap[w.heap.size]? = some (.cells #[.int .i64 k1, .int .i64 k2] 41 (0, 0))) := (hb2.block _ (blk_lt HX1.out)).trans HX1.out
  have HD2 : Hid (DA w2 D M L hf P es) := HD.out.1.kept HB2.out
  clear hb2 HB1 HX1
  obtain ⟨_, c1, _⟩ := HD2.out.cells
  have b0 : w2.cell? ⟨w.heap.size, 0, none⟩ = some (.int .i64 k1) := by rw [World.cell?, HX2.out]; rfl
  have b1 : w2.cell? ⟨w.heap.size, 1, none⟩ = some (.int .i64 k2) := by rw [World.cell?, HX2.out]; rfl
  have hl := HD2.out.lookN HD.out.2.1
  rw [HE.out] at hl
  have cv := HD2.out.valc (fd_some HE.out).1
  have fv : w2.frozen? ⟨e0.b, 2, none⟩ = false := by
    obtain ⟨x, y, hh⟩ := HD2.out.entry (fd_some HE.out).1
    exact frozen_of_row _ _ _ _ _ hh
  simp only [fp] at hl
  go_wp2_with fail
  go_quiet (fail)
  have HF : Hid (DA ((w2.setCell ⟨e0.b, 2, none⟩ (ptr v)).drewN nq) D M L hf P (es.map (ud (k1, k2) v)) ∧ Fr (Ft M L es) w ((w2.setCell ⟨e0.b, 2, none⟩ (ptr v)).drewN nq)) := by
    refine ⟨(HD2.out.upd HE.out v HD.out.2.2).same (fun _ _ => rfl), ?_⟩
    have h1 := (Fr.ofBelow (S := Ft M L es) HB2.out).set ⟨e0.b, 2, none⟩ (ptr v) (.inr (.inr (.inr ⟨e0, (fd_some HE.out).1, rfl⟩)))
    exact ⟨h1.os, h1.tape, h1.output, h1.size, h1.block⟩
  go_wp2
  go_ret2
  exact ⟨rfl, HF.out⟩
end Go.Proofs.YtbcmmeajglilbaaGreat
