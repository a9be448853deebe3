/-
  ROWS OF NUMBERS THAT A CALL HAS MADE; make, copy, append.
-/
import Derived.Test.YtkpggbjibngplaaLOnw
import Derived.Laws.CopyOwn
import Derived.Laws.CopyRow
import Derived.WalkSmall
namespace Go.Proofs.Ytkpggbjibngplaa
open Go.RowKit Go.Sort

abbrev iv (z : Int) : Value := .int .i64 z
def cellsI (L : List Int) : Array Value := (L.map iv).toArray
theorem size_cellsI (L : List Int) : (cellsI L).size = L.length := by simp [cellsI]
theorem get_cellsI (L : List Int) (j : Nat) (h : j < L.length) : (cellsI L)[j]? = some (.int .i64 (L.getD j 0)) := by
  simp [cellsI, List.getD_eq_getElem?_getD, List.getElem?_eq_getElem h]
theorem set_cellsI (L : List Int) (i : Nat) (z : Int) : (cellsI L).setIfInBounds i (.int .i64 z) = cellsI (L.set i z) := by
  apply Array.ext'
  simp [cellsI, List.map_set]
theorem made_cellsI (n : Nat) : madeCells #[.int .i64 0] n = cellsI (List.replicate n 0) := by
  apply Array.ext'
  rw [toList_madeCells_one]
  simp [cellsI]
theorem oneI (L : List Int) : ∀ v ∈ L.map iv, v.oneCell' = true := by
  intro v hv
  obtain ⟨z, _, rfl⟩ := List.mem_map.1 hv
  rfl

/-- BLOCK g IS A ROW OF NUMBERS, L -/
def RowI (w : World) (g : Nat) (L : List Int) : Prop := w.heap[g]? = some (.cells (cellsI L) 3 (0, 0))
theorem RowI.cell {w : World} {g : Nat} {L : List Int} (h : RowI w g L) (j : Nat) (hj : j < L.length) : w.cell? ⟨g, j, none⟩ = some (.int .i64 (L.getD j 0)) := by
  have := get_cellsI L j hj
  simp [World.cell?, show w.heap[g]? = _ from h, this]
theorem RowI.frozen {w : World} {g : Nat} {L : List Int} (h : RowI w g L) (j : Nat) : w.frozen? ⟨g, j, none⟩ = false := frozen_of_row w g j _ _ h
theorem RowI.set {w : World} {g : Nat} {L : List Int} (h : RowI w g L) (i : Nat) (z : Int) : RowI (w.setCell ⟨g, i, none⟩ (.int .i64 z)) g (L.set i z) := by
  have := heap_setCell_same w g i _ _ (.int .i64 z) h
  rw [set_cellsI] at this
  exact this
theorem RowI.lt {w : World} {g : Nat} {L : List Int} (h : RowI w g L) : g < w.heap.size := (Array.getElem?_eq_some_iff.1 h).1
theorem RowI.other {w : World} {g : Nat} {L : List Int} (h : RowI w g L) {a : Addr} (v : Value) (hne : g ≠ a.block) : RowI (w.setCell a v) g L := by
  unfold RowI; rw [heap_setCell_other w a g v hne]; exact h
theorem RowI.below {w w1 : World} {g B : Nat} {L : List Int} (h : RowI w g L) (hb : Below B w w1) (hg : g < B) : RowI w1 g L := by
  unfold RowI; rw [hb.block g hg]; exact h
theorem RowI.kept {w w1 : World} {g : Nat} {L : List Int} (h : RowI w g L) (hb : Below w.heap.size w w1) : RowI w1 g L := h.below hb h.lt
theorem RowI.alloc {w : World} {g : Nat} {L : List Int} (h : RowI w g L) (o : Obj) : RowI (w.alloc o) g L := h.kept ((Below.refl _ _).alloc (Nat.le_refl _) _)
theorem RowI.new (w : World) (L : List Int) : RowI (w.alloc (.cells (cellsI L) 3)) w.heap.size L := by
  show (w.heap.push _)[w.heap.size]? = _
  simp
theorem RowI.setRow {w : World} {g : Nat} {L : List Int} (h : RowI w g L) (M : List Int) : RowI (w.setRow g (cellsI M)) g M := by
  unfold RowI at *
  simp [World.setRow, Array.getElem?_modify, h]
theorem below_setRow {w : World} {g B : Nat} (c : Array Value) (hg : B ≤ g) : Below B w (w.setRow g c) := by
  refine ⟨rfl, rfl, rfl, by simp [World.setRow], fun k hk => ?_⟩
  simp [World.setRow, Array.getElem?_modify, show g ≠ k by omega]

theorem infoI : (Try.prog.info? 3).map (fun i => (i.zero, i.size, i.bytes)) = some (some (.int .i64 0), 1, 8) := by kernel_rfl
theorem sizeI : (Try.prog.info? 3).map (·.size) = some 1 := by kernel_rfl
/-- make([]int, n) -/
theorem make_ints (c : Nat) (C : Int) (hC : C = c) (hc : c ≤ 1000000) (u : World) : (Instr.makeSlice 74 (.int .i64 C) (.int .i64 C)).run Try.prog u =
    .ok (.slice (some ⟨u.heap.size, 0, none⟩) c c) (u.alloc (.cells (cellsI (List.replicate c 0)) 3)) := by
  obtain ⟨i0, hi, hz0, hz1, hz2⟩ := info_parts infoI
  subst hC
  have h := run_make (P := Try.prog) u 74 3 i0 (.int .i64 0) Try.underlying74 hi hz0 .i64 .i64 (c : Int) (c : Int) (by omega) (Int.le_refl _) (by rw [hz2]; omega) (by omega)
  rw [← made_cellsI]
  simpa [hz1, Value.cells] using h

theorem step_copy_ints {w : World} {ops : Array Oper} {o : Oper} {a : Act} {K' : Act → World → Prop} {Q : Exit → Act → World → Prop} {E : Prop} (hgd : o.guard = none) (s x : Operand)
    (ho : o.op = .call { callee := .builtin .copy, args := #[s, x], argTypes := #[74, 74] }) (v1 v2 r : Value) (w' : World) (hs : a.eval s = v1) (hx : a.eval x = v2)
    (hr : (Builtin.copy_ #[74, 74] o.type #[v1, v2]).run Try.prog w = .ok r w') (h : K' (a.put o.dst r) w') :
    if Region.wanted o (yielded ops a.tmps) = true then Oper.wp Try.prog o a w K' Q else E := by
  have hw : Region.wanted o (yielded ops a.tmps) = true := by simp [Region.wanted, hgd]
  rw [if_pos hw]
  unfold Oper.wp execOp
  simp only [ho, resolve, invoke, builtin, Sem.run_bind, Sem.run_pure, Result.andThen_ok, List.map_toArray, List.map_cons, List.map_nil, hs, hx, hr]
  exact h

/-- copy of a row's beginning behind it -/
def half (m k : Nat) : List Int := List.replicate k (-1) ++ List.replicate (m - k) 0
theorem half_length (m k : Nat) (h : k ≤ m) : (half m k).length = m := by simp [half]; omega
theorem half_full (m : Nat) : half m m = List.replicate m (-1) := by simp [half]
theorem half_get (m k j : Nat) (h : j < k) : (half m k).getD j 0 = -1 := by
  simp [half, List.getD_eq_getElem?_getD, List.getElem?_append_left, h]
theorem half_copy (m k c : Nat) : (half m k).take k ++ List.replicate c (-1) ++ (half m k).drop (k + c) = half m (k + c) := by
  unfold half
  rw [List.take_left' (by simp), List.replicate_append_replicate, List.drop_append, List.drop_eq_nil_of_le (by simp), List.nil_append, List.drop_replicate]
  congr 2
  simp; omega
theorem copy_half (w : World) (ty : TypeId) (g m k dLen dCap sCap : Nat) (h : RowI w g (half m k)) (hk : k < m) (hd : dLen = m - k) :
    (Builtin.copy_ #[74, 74] ty #[.slice (some ⟨g, k, none⟩) dLen dCap, .slice (some ⟨g, 0, none⟩) k sCap]).run Try.prog w =
      .ok (.int .i64 ((min k (m - k) : Nat) : Int)) (w.setRow g (cellsI (half m (k + min k (m - k))))) := by
  have h1 := run_copy_row (P := Try.prog) w 74 74 ty 3 g k dLen dCap ⟨g, 0, none⟩ k sCap (cellsI (half m k)) 3 (List.replicate (min k (m - k)) (iv (-1))) Try.underlying74 sizeI h
    (by rw [List.length_replicate, hd])
    (fun j v hv => by
      have hj : j < min k (m - k) := by have := (List.getElem?_eq_some_iff.1 hv).1; simpa using this
      rw [List.getElem?_replicate, if_pos hj] at hv
      cases hv
      rw [addr_add, Nat.zero_add, h.cell j (by rw [half_length m k (by omega)]; omega), half_get m k j (by omega)])
    (by rw [size_cellsI, half_length m k (by omega), List.length_replicate]; omega)
    (by intro v hv; rw [List.eq_of_mem_replicate hv]; rfl)
  have e : ((cellsI (half m k)).toList.take k ++ List.replicate (min k (m - k)) (iv (-1)) ++ (cellsI (half m k)).toList.drop (k + (List.replicate (min k (m - k)) (iv (-1))).length)).toArray = cellsI (half m (k + min k (m - k))) := by
    rw [List.length_replicate, ← half_copy m k (min k (m - k))]
    simp [cellsI, List.map_append, List.map_take, List.map_drop]
  rw [h1, e, List.length_replicate]
  rfl

end Go.Proofs.Ytkpggbjibngplaa
