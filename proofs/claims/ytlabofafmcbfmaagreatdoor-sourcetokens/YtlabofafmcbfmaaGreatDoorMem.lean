/-
  ROWS OF BYTES THAT A CALL HAS MADE; make, copy.
-/
import Derived.Test.YtlabofafmcbfmaaGreatDoorBytes
import Derived.Laws.CopyOwn
import Derived.WalkSmall
namespace Go.Proofs.YtlabofafmcbfmaaGreatDoor
open Go.RowKit

/-- a byte as a value -/
def b8 (z : Nat) : Value := .int .u8 (z : Int)
def cellsU8 (L : List Nat) : Array Value := (L.map b8).toArray
theorem size_cellsU8 (L : List Nat) : (cellsU8 L).size = L.length := by simp [cellsU8]
theorem getElem?_cellsU8 (L : List Nat) (j : Nat) (h : j < L.length) : (cellsU8 L)[j]? = some (.int .u8 ((L.getD j 0 : Nat) : Int)) := by
  simp [cellsU8, b8, List.getD_eq_getElem?_getD, List.getElem?_eq_getElem h]
theorem set_cellsU8 (L : List Nat) (i z : Nat) : (cellsU8 L).setIfInBounds i (.int .u8 (z : Int)) = cellsU8 (L.set i z) := by
  apply Array.ext'
  simp [cellsU8, b8, List.map_set]
theorem made_cellsU8 (n : Nat) : madeCells #[.int .u8 0] n = cellsU8 (List.replicate n 0) := by
  apply Array.ext'
  rw [toList_madeCells_one]
  simp [cellsU8, b8]

/-- BLOCK g IS A ROW OF BYTES, L, of the call's own. -/
def RowAt (w : World) (g : Nat) (L : List Nat) : Prop := w.heap[g]? = some (.cells (cellsU8 L) 5 (0, 0))

theorem RowAt.cell {w : World} {g : Nat} {L : List Nat} (h : RowAt w g L) (j : Nat) (hj : j < L.length) : w.cell? ⟨g, j, none⟩ = some (.int .u8 ((L.getD j 0 : Nat) : Int)) := by
  have := getElem?_cellsU8 L j hj
  simp [World.cell?, show w.heap[g]? = _ from h, this]
theorem RowAt.frozen {w : World} {g : Nat} {L : List Nat} (h : RowAt w g L) (j : Nat) : w.frozen? ⟨g, j, none⟩ = false := frozen_of_row w g j _ _ h
theorem RowAt.set {w : World} {g : Nat} {L : List Nat} (h : RowAt w g L) (i z : Nat) : RowAt (w.setCell ⟨g, i, none⟩ (.int .u8 (z : Int))) g (L.set i z) := by
  have := heap_setCell_same w g i _ _ (.int .u8 (z : Int)) h
  rw [set_cellsU8] at this
  exact this
theorem RowAt.lt {w : World} {g : Nat} {L : List Nat} (h : RowAt w g L) : g < w.heap.size := (Array.getElem?_eq_some_iff.1 h).1
theorem RowAt.other {w : World} {g : Nat} {L : List Nat} (h : RowAt w g L) {a : Addr} (v : Value) (hne : g ≠ a.block) : RowAt (w.setCell a v) g L := by
  unfold RowAt; rw [heap_setCell_other w a g v hne]; exact h
theorem RowAt.below {w w1 : World} {g B : Nat} {L : List Nat} (h : RowAt w g L) (hb : Below B w w1) (hg : g < B) : RowAt w1 g L := by
  unfold RowAt; rw [hb.block g hg]; exact h
theorem RowAt.bytes {w : World} {g : Nat} {L : List Nat} (h : RowAt w g L) (hz : ∀ z ∈ L, z < 256) (off n : Nat) (hn : off + n ≤ L.length) : BytesAt w (some ⟨g, off, none⟩) ((L.drop off).take n) := by
  refine ⟨fun z hz' => hz z (List.mem_of_mem_drop (List.mem_of_mem_take hz')), .inr ⟨g, off, rfl, fun j hj => ?_⟩⟩
  have hj' : j < n := by simp at hj; omega
  rw [h.cell (off + j) (by omega)]
  congr 3
  simp [List.getD_eq_getElem?_getD, hj']
theorem RowAt.bytes0 {w : World} {g : Nat} {L R : List Nat} (h : RowAt w g (L ++ R)) (hz : ∀ z ∈ L, z < 256) : BytesAt w (some ⟨g, 0, none⟩) L := by
  refine ⟨hz, .inr ⟨g, 0, rfl, fun j hj => ?_⟩⟩
  rw [h.cell (0 + j) (by simp; omega), Nat.zero_add, getD_left _ _ _ hj]

theorem rowAt_alloc (w : World) (L : List Nat) : RowAt (w.alloc (.cells (cellsU8 L) 5)) w.heap.size L := by
  show (w.heap.push _)[w.heap.size]? = _
  simp

theorem BytesAt.below {w w1 : World} {ao : Option Addr} {zs : List Nat} (h : BytesAt w ao zs) {B : Nat} (hb : Below B w w1) (hlt : ∀ a, zs ≠ [] → ao = some a → a.block < B) : BytesAt w1 ao zs := by
  obtain ⟨hz, rfl | ⟨b, off, rfl, hc⟩⟩ := h
  · exact ⟨hz, .inl rfl⟩
  · refine ⟨hz, .inr ⟨b, off, rfl, fun j hj => ?_⟩⟩
    have hne : zs ≠ [] := by intro e; rw [e] at hj; simp at hj
    rw [hb.cell (p := ⟨b, off + j, none⟩) (hlt ⟨b, off, none⟩ hne rfl)]
    exact hc j hj
/-- what is read lies among the blocks that are there -/
theorem BytesAt.lt {w : World} {ao : Option Addr} {zs : List Nat} (h : BytesAt w ao zs) : ∀ a, zs ≠ [] → ao = some a → a.block < w.heap.size := by
  intro a hne he
  obtain ⟨_, rfl | ⟨b, off, rfl, hc⟩⟩ := h
  · exact absurd rfl hne
  · cases he
    have h0 := hc 0 (by cases zs with | nil => exact absurd rfl hne | cons z zs => simp)
    by_cases hlt : b < w.heap.size
    · exact hlt
    · have hn : w.heap[b]? = none := by simp; omega
      simp [World.cell?, hn] at h0
theorem BytesAt.kept {w w1 : World} {ao : Option Addr} {zs : List Nat} (h : BytesAt w ao zs) (hb : Below w.heap.size w w1) : BytesAt w1 ao zs := h.below hb h.lt

theorem oneCells (L : List Nat) : ∀ v ∈ (L.map b8), v.oneCell' = true := by
  intro v hv
  obtain ⟨z, _, rfl⟩ := List.mem_map.1 hv
  rfl
theorem bytes_src {w : World} {ao : Option Addr} {zs : List Nat} (h : BytesAt w ao zs) (hne : zs ≠ []) : ∃ ad, ao = some ad ∧ ∀ j v, (zs.map b8)[j]? = some v → w.cell? (ad.add j) = some v := by
  obtain ⟨_, rfl | ⟨b, off, rfl, hc⟩⟩ := h
  · exact absurd rfl hne
  · refine ⟨_, rfl, fun j v hv => ?_⟩
    have hj : j < zs.length := by
      have := (List.getElem?_eq_some_iff.1 hv).1
      simpa using this
    have e : (⟨b, off, none⟩ : Addr).add j = ⟨b, off + j, none⟩ := by unfold Addr.add; split <;> simp_all
    rw [e, hc j hj]
    have : v = .int .u8 ((zs.getD j 0 : Nat) : Int) := by
      simp [List.getElem?_map, List.getElem?_eq_getElem hj] at hv
      rw [← hv]; simp [b8, List.getD_eq_getElem?_getD, List.getElem?_eq_getElem hj]
    rw [this]

theorem setRow_alloc (w : World) (c c' : Array Value) (t : TypeId) : (w.alloc (.cells c t)).setRow w.heap.size c' = w.alloc (.cells c' t) := by
  unfold World.setRow World.alloc
  congr 1
  apply Array.ext_getElem?
  intro k
  simp only [Array.getElem?_modify, Array.getElem?_push]
  by_cases hk : k = w.heap.size
  · subst hk; simp
  · simp [hk, Ne.symm hk]

/-- 'copy' into a row that has just been made. -/
theorem copy_made (w : World) (ao : Option Addr) (n N cap ty : Nat) (zs : List Nat) (hn : n = zs.length) (h : BytesAt w ao zs) (hN : zs.length ≤ N)
    (hu : Tryz.prog.underlying 87 = some (.slice 5)) (hsz : (Tryz.prog.info? 5).map (·.size) = some 1) :
    (Builtin.copy_ #[87, 87] ty #[.slice (some ⟨w.heap.size, 0, none⟩) N N, .slice ao n cap]).run Tryz.prog (w.alloc (.cells (madeCells #[.int .u8 0] N) 5)) =
      .ok (.int .i64 (n : Int)) (w.alloc (.cells (cellsU8 (zs ++ List.replicate (N - zs.length) 0)) 5)) := by
  subst hn
  rw [made_cellsU8]
  by_cases h0 : zs = []
  · subst h0
    have := run_copy_none (P := Tryz.prog) (w.alloc (.cells (cellsU8 (List.replicate N 0)) 5)) 87 87 ty 5 (some ⟨w.heap.size, 0, none⟩) ao N N 0 cap hu hsz (by simp)
    simpa [goInt] using this
  · obtain ⟨ad, rfl, hsrc⟩ := bytes_src h h0
    have hlt := h.lt ad h0 rfl
    have hrow : (w.alloc (.cells (cellsU8 (List.replicate N 0)) 5)).heap[w.heap.size]? = some (.cells (cellsU8 (List.replicate N 0)) 5 (0, 0)) := rowAt_alloc w _
    have := run_copy_row (P := Tryz.prog) (w.alloc (.cells (cellsU8 (List.replicate N 0)) 5)) 87 87 ty 5 w.heap.size 0 N N ad zs.length cap (cellsU8 (List.replicate N 0)) 5
      (zs.map b8) hu hsz hrow (by rw [List.length_map]; exact (Nat.min_eq_left hN).symm) (fun j v hv => by
        rw [← hsrc j v hv]
        have hb : (ad.add j).block = ad.block := by unfold Addr.add; split <;> simp_all
        exact World.cell?_alloc_lt w _ _ (by omega)) (by rw [size_cellsU8]; simpa using hN) (oneCells zs)
    rw [this, setRow_alloc]
    simp [goInt, cellsU8]

theorem info8 : (Tryz.prog.info? 5).map (fun i => (i.zero, i.size, i.bytes)) = some (some (.int .u8 0), 1, 1) := by kernel_rfl
theorem size8 : (Tryz.prog.info? 5).map (·.size) = some 1 := by kernel_rfl
theorem bytes8 : Tryz.prog.bytesOf 5 = 1 := by kernel_rfl
/-- make([]byte, n) -/
theorem make_bytes (c : Nat) (C : Int) (hC : C = c) (hc : c ≤ 281474976710656) (u : World) : (Instr.makeSlice 87 (.int .i64 C) (.int .i64 C)).run Tryz.prog u =
    .ok (.slice (some ⟨u.heap.size, 0, none⟩) c c) (u.alloc (.cells (madeCells #[.int .u8 0] c) 5)) := by
  obtain ⟨i0, hi, hz0, hz1, hz2⟩ := info_parts info8
  subst hC
  have h := run_make (P := Tryz.prog) u 87 5 i0 (.int .u8 0) Tryz.underlying87 hi hz0 .i64 .i64 (c : Int) (c : Int) (by omega) (Int.le_refl _) (by rw [hz2]; omega) (by omega)
  simpa [hz1, Value.cells] using h

end Go.Proofs.YtlabofafmcbfmaaGreatDoor
