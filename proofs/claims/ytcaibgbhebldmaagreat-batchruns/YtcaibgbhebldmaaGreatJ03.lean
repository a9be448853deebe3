import Derived.Test.YtcaibgbhebldmaaGreatRows
import Derived.Test.YtcaibgbhebldmaaGreatJ02
import Derived.WalkKit
import Derived.WalkLawsBesides
import Derived.ProofKit
import Derived.OpenShut
import Derived.BigQuiet
import Derived.Laws.BitsAllLaws
import Derived.Laws.CopyOwn
import Derived.WalkSmall
import Derived.Laws.AppendOwnNone
import Derived.Maps.AppendAt
/-
  BYTES IN MEMORY: what a slice of bytes holds; the table of the check sum; small laws.
-/
namespace Go.Proofs.YtcaibgbhebldmaaGreat
open Go.RowKit

/-- A SLICE OF BYTES: the address and what its cells hold. -/
def BytesAt (w : World) (ao : Option Addr) (zs : List Nat) : Prop :=
  (∀ z ∈ zs, z < 256) ∧ (zs = [] ∨ ∃ b off, ao = some ⟨b, off, none⟩ ∧ ∀ j, j < zs.length → w.cell? ⟨b, off + j, none⟩ = some (.int .u8 ((zs.getD j 0 : Nat) : Int)))

theorem getD_lt {zs : List Nat} (h : ∀ z ∈ zs, z < 256) (j : Nat) : zs.getD j 0 < 256 := by
  rw [List.getD_eq_getElem?_getD]
  cases e : zs[j]? with
  | none => simp
  | some z => simpa using h z (List.mem_of_getElem? e)
theorem take_lt {zs : List Nat} (h : ∀ z ∈ zs, z < 256) (k : Nat) : ∀ z ∈ zs.take k, z < 256 := fun z hz => h z (List.mem_of_mem_take hz)
theorem take_snoc (zs : List Nat) (k : Nat) (h : k < zs.length) : zs.take (k + 1) = zs.take k ++ [zs.getD k 0] := by
  rw [List.take_succ_eq_append_getElem h, List.getD_eq_getElem?_getD, List.getElem?_eq_getElem h]; rfl

theorem getD_left (xs ys : List Nat) (j : Nat) (h : j < xs.length) : (xs ++ ys).getD j 0 = xs.getD j 0 := by
  rw [List.getD_eq_getElem?_getD, List.getD_eq_getElem?_getD, List.getElem?_append_left h]
theorem getD_right (xs ys : List Nat) (j : Nat) (h : xs.length ≤ j) : (xs ++ ys).getD j 0 = ys.getD (j - xs.length) 0 := by
  rw [List.getD_eq_getElem?_getD, List.getD_eq_getElem?_getD, List.getElem?_append_right h]
theorem BytesAt.drewN {w : World} {ao : Option Addr} {zs : List Nat} (h : BytesAt w ao zs) (n : Nat) : BytesAt (w.drewN n) ao zs := h

end Go.Proofs.YtcaibgbhebldmaaGreat
/-
  ROWS OF BYTES THAT A CALL HAS MADE; make, copy.
-/
namespace Go.Proofs.YtcaibgbhebldmaaGreat
open Go.RowKit

/-- a byte as a value -/
def b8 (z : Nat) : Value := .int .u8 (z : Int)
def cellsU8 (L : List Nat) : Array Value := (L.map b8).toArray
theorem size_cellsU8 (L : List Nat) : (cellsU8 L).size = L.length := by simp [cellsU8]
theorem getElem?_cellsU8 (L : List Nat) (j : Nat) (h : j < L.length) : (cellsU8 L)[j]? = some (.int .u8 ((L.getD j 0 : Nat) : Int)) := by
  simp [cellsU8, b8, List.getD_eq_getElem?_getD, List.getElem?_eq_getElem h]
theorem set_cellsU8 (L : List Nat) (i z : Nat) : (cellsU8 L).setIfInBounds i (.int .u8 (z : Int)) = cellsU8 (L.set i z) := by
  apply Array.ext'
  simp [cellsU8, b8, List.map_set]
theorem made_cellsU8 (n : Nat) : madeCells #[.int .u8 0] n = cellsU8 (List.replicate n 0) := by
  apply Array.ext'
  rw [toList_madeCells_one]
  simp [cellsU8, b8]

/-- BLOCK g IS A ROW OF BYTES, L, of the call's own. -/
def RowAt (w : World) (g : Nat) (L : List Nat) : Prop := w.heap[g]? = some (.cells (cellsU8 L) 5 (0, 0))

theorem RowAt.cell {w : World} {g : Nat} {L : List Nat} (h : RowAt w g L) (j : Nat) (hj : j < L.length) : w.cell? ⟨g, j, none⟩ = some (.int .u8 ((L.getD j 0 : Nat) : Int)) := by
  have := getElem?_cellsU8 L j hj
  simp [World.cell?, show w.heap[g]? = _ from h, this]
theorem RowAt.frozen {w : World} {g : Nat} {L : List Nat} (h : RowAt w g L) (j : Nat) : w.frozen? ⟨g, j, none⟩ = false := frozen_of_row w g j _ _ h
theorem RowAt.set {w : World} {g : Nat} {L : List Nat} (h : RowAt w g L) (i z : Nat) : RowAt (w.setCell ⟨g, i, none⟩ (.int .u8 (z : Int))) g (L.set i z) := by
  have := heap_setCell_same w g i _ _ (.int .u8 (z : Int)) h
  rw [set_cellsU8] at this
  exact this
theorem RowAt.lt {w : World} {g : Nat} {L : List Nat} (h : RowAt w g L) : g < w.heap.size := (Array.getElem?_eq_some_iff.1 h).1
theorem RowAt.other {w : World} {g : Nat} {L : List Nat} (h : RowAt w g L) {a : Addr} (v : Value) (hne : g ≠ a.block) : RowAt (w.setCell a v) g L := by
  unfold RowAt; rw [heap_setCell_other w a g v hne]; exact h
theorem RowAt.below {w w1 : World} {g B : Nat} {L : List Nat} (h : RowAt w g L) (hb : Below B w w1) (hg : g < B) : RowAt w1 g L := by
  unfold RowAt; rw [hb.block g hg]; exact h
theorem RowAt.bytes {w : World} {g : Nat} {L : List Nat} (h : RowAt w g L) (hz : ∀ z ∈ L, z < 256) (off n : Nat) (hn : off + n ≤ L.length) : BytesAt w (some ⟨g, off, none⟩) ((L.drop off).take n) := by
  refine ⟨fun z hz' => hz z (List.mem_of_mem_drop (List.mem_of_mem_take hz')), .inr ⟨g, off, rfl, fun j hj => ?_⟩⟩
  have hj' : j < n := by simp at hj; omega
  rw [h.cell (off + j) (by omega)]
  congr 3
  simp [List.getD_eq_getElem?_getD, hj']
theorem RowAt.bytes0 {w : World} {g : Nat} {L R : List Nat} (h : RowAt w g (L ++ R)) (hz : ∀ z ∈ L, z < 256) : BytesAt w (some ⟨g, 0, none⟩) L := by
  refine ⟨hz, .inr ⟨g, 0, rfl, fun j hj => ?_⟩⟩
  rw [h.cell (0 + j) (by simp; omega), Nat.zero_add, getD_left _ _ _ hj]

theorem rowAt_alloc (w : World) (L : List Nat) : RowAt (w.alloc (.cells (cellsU8 L) 5)) w.heap.size L := by
  show (w.heap.push _)[w.heap.size]? = _
  simp

theorem BytesAt.below {w w1 : World} {ao : Option Addr} {zs : List Nat} (h : BytesAt w ao zs) {B : Nat} (hb : Below B w w1) (hlt : ∀ a, zs ≠ [] → ao = some a → a.block < B) : BytesAt w1 ao zs := by
  obtain ⟨hz, rfl | ⟨b, off, rfl, hc⟩⟩ := h
  · exact ⟨hz, .inl rfl⟩
  · refine ⟨hz, .inr ⟨b, off, rfl, fun j hj => ?_⟩⟩
    have hne : zs ≠ [] := by intro e; rw [e] at hj; simp at hj
    rw [hb.cell (p := ⟨b, off + j, none⟩) (hlt ⟨b, off, none⟩ hne rfl)]
    exact hc j hj
/-- what is read lies among the blocks that are there -/
theorem BytesAt.lt {w : World} {ao : Option Addr} {zs : List Nat} (h : BytesAt w ao zs) : ∀ a, zs ≠ [] → ao = some a → a.block < w.heap.size := by
  intro a hne he
  obtain ⟨_, rfl | ⟨b, off, rfl, hc⟩⟩ := h
  · exact absurd rfl hne
  · cases he
    have h0 := hc 0 (by cases zs with | nil => exact absurd rfl hne | cons z zs => simp)
    by_cases hlt : b < w.heap.size
    · exact hlt
    · have hn : w.heap[b]? = none := by simp; omega
      simp [World.cell?, hn] at h0
theorem BytesAt.kept {w w1 : World} {ao : Option Addr} {zs : List Nat} (h : BytesAt w ao zs) (hb : Below w.heap.size w w1) : BytesAt w1 ao zs := h.below hb h.lt

theorem oneCells (L : List Nat) : ∀ v ∈ (L.map b8), v.oneCell' = true := by
  intro v hv
  obtain ⟨z, _, rfl⟩ := List.mem_map.1 hv
  rfl
theorem bytes_src {w : World} {ao : Option Addr} {zs : List Nat} (h : BytesAt w ao zs) (hne : zs ≠ []) : ∃ ad, ao = some ad ∧ ∀ j v, (zs.map b8)[j]? = some v → w.cell? (ad.add j) = some v := by
  obtain ⟨_, rfl | ⟨b, off, rfl, hc⟩⟩ := h
  · exact absurd rfl hne
  · refine ⟨_, rfl, fun j v hv => ?_⟩
    have hj : j < zs.length := by
      have := (List.getElem?_eq_some_iff.1 hv).1
      simpa using this
    have e : (⟨b, off, none⟩ : Addr).add j = ⟨b, off + j, none⟩ := by unfold Addr.add; split <;> simp_all
    rw [e, hc j hj]
    have : v = .int .u8 ((zs.getD j 0 : Nat) : Int) := by
      simp [List.getElem?_map, List.getElem?_eq_getElem hj] at hv
      rw [← hv]; simp [b8, List.getD_eq_getElem?_getD, List.getElem?_eq_getElem hj]
    rw [this]

theorem setRow_alloc (w : World) (c c' : Array Value) (t : TypeId) : (w.alloc (.cells c t)).setRow w.heap.size c' = w.alloc (.cells c' t) := by
  unfold World.setRow World.alloc
  congr 1
  apply Array.ext_getElem?
  intro k
  simp only [Array.getElem?_modify, Array.getElem?_push]
  by_cases hk : k = w.heap.size
  · subst hk; simp
  · simp [hk, Ne.symm hk]

/-- 'copy' into a row that has just been made. -/
theorem copy_made (w : World) (ao : Option Addr) (n N cap ty : Nat) (zs : List Nat) (hn : n = zs.length) (h : BytesAt w ao zs) (hN : zs.length ≤ N)
    (hu : Tryz.prog.underlying 23 = some (.slice 5)) (hsz : (Tryz.prog.info? 5).map (·.size) = some 1) :
    (Builtin.copy_ #[23, 23] ty #[.slice (some ⟨w.heap.size, 0, none⟩) N N, .slice ao n cap]).run Tryz.prog (w.alloc (.cells (madeCells #[.int .u8 0] N) 5)) =
      .ok (.int .i64 (n : Int)) (w.alloc (.cells (cellsU8 (zs ++ List.replicate (N - zs.length) 0)) 5)) := by
  subst hn
  rw [made_cellsU8]
  by_cases h0 : zs = []
  · subst h0
    have := run_copy_none (P := Tryz.prog) (w.alloc (.cells (cellsU8 (List.replicate N 0)) 5)) 23 23 ty 5 (some ⟨w.heap.size, 0, none⟩) ao N N 0 cap hu hsz (by simp)
    simpa [goInt] using this
  · obtain ⟨ad, rfl, hsrc⟩ := bytes_src h h0
    have hlt := h.lt ad h0 rfl
    have hrow : (w.alloc (.cells (cellsU8 (List.replicate N 0)) 5)).heap[w.heap.size]? = some (.cells (cellsU8 (List.replicate N 0)) 5 (0, 0)) := rowAt_alloc w _
    have := run_copy_row (P := Tryz.prog) (w.alloc (.cells (cellsU8 (List.replicate N 0)) 5)) 23 23 ty 5 w.heap.size 0 N N ad zs.length cap (cellsU8 (List.replicate N 0)) 5
      (zs.map b8) hu hsz hrow (by rw [List.length_map]; exact (Nat.min_eq_left hN).symm) (fun j v hv => by
        rw [← hsrc j v hv]
        have hb : (ad.add j).block = ad.block := by unfold Addr.add; split <;> simp_all
        exact World.cell?_alloc_lt w _ _ (by omega)) (by rw [size_cellsU8]; simpa using hN) (oneCells zs)
    rw [this, setRow_alloc]
    simp [goInt, cellsU8]

theorem info8 : (Tryz.prog.info? 5).map (fun i => (i.zero, i.size, i.bytes)) = some (some (.int .u8 0), 1, 1) := by kernel_rfl
theorem size8 : (Tryz.prog.info? 5).map (·.size) = some 1 := by kernel_rfl
theorem bytes8 : Tryz.prog.bytesOf 5 = 1 := by kernel_rfl
/-- make([]byte, n) -/
theorem make_bytes (c : Nat) (C : Int) (hC : C = c) (hc : c ≤ 281474976710656) (u : World) : (Instr.makeSlice 23 (.int .i64 C) (.int .i64 C)).run Tryz.prog u =
    .ok (.slice (some ⟨u.heap.size, 0, none⟩) c c) (u.alloc (.cells (madeCells #[.int .u8 0] c) 5)) := by
  obtain ⟨i0, hi, hz0, hz1, hz2⟩ := info_parts info8
  subst hC
  have h := run_make (P := Tryz.prog) u 23 5 i0 (.int .u8 0) Tryz.underlying23 hi hz0 .i64 .i64 (c : Int) (c : Int) (by omega) (Int.le_refl _) (by rw [hz2]; omega) (by omega)
  simpa [hz1, Value.cells] using h

end Go.Proofs.YtcaibgbhebldmaaGreat
/-
  A SLICE OF BYTES THAT IS THE CALL's OWN; append.
-/
namespace Go.Proofs.YtcaibgbhebldmaaGreat
open Go.RowKit

/-- v is nil and L is empty; or v lies at the head of a row of the call's own (from block 'base' on), whose first bytes are L. -/
def OwnB (w : World) (base : Nat) (v : Value) (L : List Nat) : Prop := (∀ z ∈ L, z < 256) ∧ w.ownsRow base 5 1 v L.length (L.map b8)

theorem OwnB.nil (w : World) (base : Nat) : OwnB w base (.slice none 0 0) [] := ⟨by simp, World.ownsRow_nil _ _ _ _⟩
theorem OwnB.shape {w : World} {base : Nat} {v : Value} {L : List Nat} (h : OwnB w base v L) :
    (v = .slice none 0 0 ∧ L = []) ∨ ∃ g cap, v = .slice (some ⟨g, 0, none⟩) L.length cap ∧ base ≤ g ∧ g < w.heap.size ∧ L.length ≤ cap ∧ cap ≤ maxLen ∧ BytesAt w (some ⟨g, 0, none⟩) L := by
  obtain ⟨hz, hl, h⟩ := h
  rcases h with ⟨rfl, h0⟩ | ⟨g, cap, cur, rfl, hb, hg, hn, hm, hs, ht⟩
  · exact .inl ⟨rfl, List.eq_nil_of_length_eq_zero h0⟩
  · refine .inr ⟨g, cap, rfl, hb, (Array.getElem?_eq_some_iff.1 hg).1, hn, hm, hz, .inr ⟨g, 0, rfl, fun j hj => ?_⟩⟩
    have e := World.ownsRow.cellAt (w := w) (base := base) (e := 5) (size := 1) (g := g) (cap := cap) ⟨hl, .inr ⟨g, cap, cur, rfl, hb, hg, hn, hm, hs, ht⟩⟩ j (by omega)
    rw [Nat.zero_add, e]
    simp [b8, List.getD_eq_getElem?_getD, List.getElem?_eq_getElem hj]
/-- as a slice, in any case -/
theorem OwnB.slice {w : World} {base : Nat} {v : Value} {L : List Nat} (h : OwnB w base v L) : ∃ ao cap, v = .slice ao L.length cap ∧ BytesAt w ao L ∧ (ao = none → cap = 0) ∧ L.length ≤ cap := by
  rcases h.shape with ⟨rfl, rfl⟩ | ⟨g, cap, rfl, _, _, hc, _, hb⟩
  · exact ⟨none, 0, rfl, ⟨by simp, .inl rfl⟩, fun _ => rfl, by simp⟩
  · exact ⟨_, cap, rfl, hb, by simp, hc⟩
theorem OwnB.alloc {w : World} {base : Nat} {v : Value} {L : List Nat} (h : OwnB w base v L) (o : Obj) : OwnB (w.alloc o) base v L := ⟨h.1, h.2.alloc o⟩
theorem OwnB.drewN {w : World} {base : Nat} {v : Value} {L : List Nat} (h : OwnB w base v L) (n : Nat) : OwnB (w.drewN n) base v L := h
theorem OwnB.mono {w : World} {base base' : Nat} {v : Value} {L : List Nat} (h : OwnB w base v L) (hb : base' ≤ base) : OwnB w base' v L := by
  obtain ⟨hz, hl, h⟩ := h
  refine ⟨hz, hl, ?_⟩
  rcases h with h | ⟨g, cap, cur, e, hg, r⟩
  · exact .inl h
  · exact .inr ⟨g, cap, cur, e, by omega, r⟩
/-- what lies below a number stays -/
theorem OwnB.below {w w1 : World} {base B : Nat} {v : Value} {L : List Nat} (h : OwnB w base v L) (hb : Below B w w1) (hlt : ∀ g, v.ownBlock = some g → g < B) : OwnB w1 base v L := by
  obtain ⟨hz, hl, h⟩ := h
  refine ⟨hz, hl, ?_⟩
  rcases h with h | ⟨g, cap, cur, rfl, hg, hh, r⟩
  · exact .inl h
  · refine .inr ⟨g, cap, cur, rfl, hg, ?_, r⟩
    rw [hb.block g (hlt g rfl)]; exact hh
theorem OwnB.kept {w w1 : World} {base : Nat} {v : Value} {L : List Nat} (h : OwnB w base v L) (hb : Below w.heap.size w w1) : OwnB w1 base v L :=
  h.below hb fun g hg => (h.2.lt g hg).2
theorem OwnB.grown {w w1 : World} {base : Nat} {v : Value} {L : List Nat} {row : Option Nat} (h : OwnB w base v L) (hg : w.grownBy w1 row) (hne : v.ownBlock = none ∨ v.ownBlock ≠ row) : OwnB w1 base v L := ⟨h.1, h.2.kept hg hne⟩
theorem OwnB.made {w : World} {L : List Nat} (hz : ∀ z ∈ L, z < 256) (hm : L.length ≤ maxLen) {base : Nat} (hb : base ≤ w.heap.size) : OwnB (w.alloc (.cells (cellsU8 L) 5)) base (.slice (some ⟨w.heap.size, 0, none⟩) L.length L.length) L := by
  refine ⟨hz, by simp, .inr ⟨w.heap.size, L.length, cellsU8 L, rfl, hb, rowAt_alloc w L, Nat.le_refl _, hm, by simp [size_cellsU8], ?_⟩⟩
  simp only [cellsU8, Nat.mul_one]
  rw [List.take_of_length_le (by simp)]
theorem OwnB.ofRow {w : World} {g : Nat} {L : List Nat} (h : RowAt w g L) (hz : ∀ z ∈ L, z < 256) (hm : L.length ≤ maxLen) {base : Nat} (hb : base ≤ g) : OwnB w base (.slice (some ⟨g, 0, none⟩) L.length L.length) L := by
  refine ⟨hz, by simp, .inr ⟨g, L.length, cellsU8 L, rfl, hb, h, Nat.le_refl _, hm, by simp [size_cellsU8], ?_⟩⟩
  simp only [cellsU8, Nat.mul_one]
  rw [List.take_of_length_le (by simp)]
theorem ownBlock_lt {w : World} {base : Nat} {v : Value} {L : List Nat} (h : OwnB w base v L) : ∀ k, v.ownBlock = some k → base ≤ k := fun k hk => (h.2.lt k hk).1

theorem OwnB.frozen {w : World} {base g n cap : Nat} {L : List Nat} (h : OwnB w base (.slice (some ⟨g, 0, none⟩) n cap) L) (j : Nat) : w.frozen? ⟨g, j, none⟩ = false := by
  obtain ⟨hz, hl, h0 | ⟨g', cap', cur, e, hb, hg, r⟩⟩ := h
  · cases h0.1
  · cases e; exact frozen_of_row w g j _ _ hg
theorem OwnB.cell {w : World} {base g n cap : Nat} {L : List Nat} (h : OwnB w base (.slice (some ⟨g, 0, none⟩) n cap) L) (j : Nat) (hj : j < L.length) : w.cell? ⟨g, j, none⟩ = some (.int .u8 ((L.getD j 0 : Nat) : Int)) := by
  rcases h.shape with ⟨h, _⟩ | ⟨g', cap', h, _, _, _, _, hb⟩
  · cases h
  · simp only [Value.slice.injEq, Option.some.injEq, Addr.mk.injEq] at h
    obtain ⟨⟨rfl, _⟩, _⟩ := h
    obtain ⟨_, h1 | ⟨b', o', e, hcc⟩⟩ := hb
    · rw [h1] at hj; simp at hj
    · simp only [Option.some.injEq, Addr.mk.injEq] at e
      obtain ⟨rfl, rfl, _⟩ := e
      have := hcc j hj
      rwa [Nat.zero_add] at this
theorem OwnB.bytes {w : World} {base n cap : Nat} {ao : Option Addr} {L : List Nat} (h : OwnB w base (.slice ao n cap) L) : BytesAt w ao L ∧ n = L.length := by
  obtain ⟨ao', cap', e, hb, _⟩ := h.slice
  simp only [Value.slice.injEq] at e
  obtain ⟨rfl, rfl, _⟩ := e
  exact ⟨hb, rfl⟩
theorem OwnB.set {w : World} {base g n cap : Nat} {L : List Nat} (h : OwnB w base (.slice (some ⟨g, 0, none⟩) n cap) L) (p z : Nat) (hz : z < 256) : OwnB (w.setCell ⟨g, p, none⟩ (.int .u8 (z : Int))) base (.slice (some ⟨g, 0, none⟩) n cap) (L.set p z) := by
  have hn : n = L.length := by
    obtain ⟨_, _, h0 | ⟨g', cap', cur, e, r⟩⟩ := h
    · cases h0.1
    · cases e; rfl
  subst hn
  have hs := h.2.stored p (.int .u8 (z : Int))
  refine ⟨?_, ?_⟩
  · intro y hy
    rcases List.mem_or_eq_of_mem_set hy with h1 | h1
    · exact h.1 y h1
    · omega
  · rw [List.length_set, List.map_set]
    exact hs.1

/-- THE LAW OF append AT A SLICE OF BYTES OF THE CALL's OWN, whatever slice of bytes is appended. -/
theorem wpList_append_bytes {w : World} {ops : Array Oper} {rest : List Oper} {o : Oper} {a : Act} {Q : Exit → Act → World → Prop} (hgd : o.guard = none) (s x : Operand)
    (ho : o.op = .call { callee := .builtin .append, args := #[s, x], argTypes := #[23, 23] }) (base : Nat) (v : Value) (L : List Nat) (hs : a.eval s = v) (hown : OwnB w base v L)
    (ao : Option Addr) (m c : Nat) (zs : List Nat) (hx : a.eval x = .slice ao m c) (hm : m = zs.length) (hsrc : BytesAt w ao zs) (hnil : ao = none → c = 0) (hlen : L.length + zs.length ≤ 140737488355328) (hbase : base ≤ w.heap.size)
    (h : ∀ v' w', OwnB w' base v' (L ++ zs) → w.grownBy w' v.ownBlock → wpList Tryz.prog ops Q rest (a.put o.dst v') w') : wpList Tryz.prog ops Q (o :: rest) a w := by
  obtain ⟨i0, hi, hz0, hz1, hz2⟩ := info_parts info8
  subst hm
  have hzz : ∀ z ∈ L ++ zs, z < 256 := by
    intro z hz
    rcases List.mem_append.1 hz with h1 | h1
    · exact hown.1 z h1
    · exact hsrc.1 z h1
  cases ao with
  | none =>
    have h0 : zs = [] := by
      obtain ⟨_, h1 | ⟨b, off, h1, _⟩⟩ := hsrc
      · exact h1
      · cases h1
    subst h0
    obtain rfl := hnil rfl
    refine wpList_append_own_none hgd s x 23 ho base 5 i0 1 Tryz.underlying23 hi v L.length (L.map b8) hs hown.2 hx ?_
    exact h v w (by simpa using hown) (World.grownBy.refl _ _)
  | some ad =>
    refine wpList_append_own w hgd s x 23 ho base 5 i0 (.int .u8 0) 1 1 Tryz.underlying23 hi hz0 hz1 hz2 rfl (by decide) v L.length (L.map b8) hs hown.2 ad zs.length c (zs.map b8) hx (by simp) ?_ (oneCells zs) (by unfold maxLen; omega) (by omega) hbase ?_
    · intro j u hu
      by_cases h0 : zs = []
      · subst h0; simp at hu
      · obtain ⟨ad', e, hc⟩ := bytes_src hsrc h0
        cases e
        exact hc j u hu
    · intro v' w' hown' hgrow _
      refine h v' w' ⟨hzz, ?_⟩ hgrow
      rw [List.length_append, List.map_append]
      exact hown'

/-- the same, and where the new slice lies: in the old one's row, or in a new block -/
theorem wpList_append_bytes_at {w : World} {ops : Array Oper} {rest : List Oper} {o : Oper} {a : Act} {Q : Exit → Act → World → Prop} (hgd : o.guard = none) (s x : Operand)
    (ho : o.op = .call { callee := .builtin .append, args := #[s, x], argTypes := #[23, 23] }) (base : Nat) (v : Value) (L : List Nat) (hs : a.eval s = v) (hown : OwnB w base v L)
    (ao : Option Addr) (m c : Nat) (zs : List Nat) (hx : a.eval x = .slice ao m c) (hm : m = zs.length) (hsrc : BytesAt w ao zs) (hnil : ao = none → c = 0) (hlen : L.length + zs.length ≤ 140737488355328) (hbase : base ≤ w.heap.size)
    (h : ∀ v' w', OwnB w' base v' (L ++ zs) → w.grownBy w' v.ownBlock → (v'.ownBlock = v.ownBlock ∨ v'.ownBlock = some w.heap.size) → wpList Tryz.prog ops Q rest (a.put o.dst v') w') : wpList Tryz.prog ops Q (o :: rest) a w := by
  obtain ⟨i0, hi, hz0, hz1, hz2⟩ := info_parts info8
  subst hm
  have hzz : ∀ z ∈ L ++ zs, z < 256 := by
    intro z hz
    rcases List.mem_append.1 hz with h1 | h1
    · exact hown.1 z h1
    · exact hsrc.1 z h1
  cases ao with
  | none =>
    have h0 : zs = [] := by
      obtain ⟨_, h1 | ⟨b, off, h1, _⟩⟩ := hsrc
      · exact h1
      · cases h1
    subst h0
    obtain rfl := hnil rfl
    refine wpList_append_own_none hgd s x 23 ho base 5 i0 1 Tryz.underlying23 hi v L.length (L.map b8) hs hown.2 hx ?_
    exact h v w (by simpa using hown) (World.grownBy.refl _ _) (.inl rfl)
  | some ad =>
    refine wpList_append_own_at w hgd s x 23 ho base 5 i0 (.int .u8 0) 1 1 Tryz.underlying23 hi hz0 hz1 hz2 rfl (by decide) v L.length (L.map b8) hs hown.2 ad zs.length c (zs.map b8) hx (by simp) ?_ (oneCells zs) (by unfold maxLen; omega) (by omega) hbase ?_
    · intro j u hu
      by_cases h0 : zs = []
      · subst h0; simp at hu
      · obtain ⟨ad', e, hc⟩ := bytes_src hsrc h0
        cases e
        exact hc j u hu
    · intro v' w' hown' hgrow _ hat
      refine h v' w' ⟨hzz, ?_⟩ hgrow hat
      rw [List.length_append, List.map_append]
      exact hown'

/-- one byte, laid for an append -/
theorem byte_src (w : World) (B z : Nat) (hB : B = w.heap.size) (hz : z < 256) : BytesAt (w.alloc (.cells #[.int .u8 (z : Int)] 5)) (some ⟨B, 0, none⟩) [z] := by
  subst hB
  have h := rowAt_alloc w [z]
  rw [show cellsU8 [z] = #[.int .u8 (z : Int)] from rfl, ← List.append_nil [z]] at h
  exact h.bytes0 (by simpa using hz)

end Go.Proofs.YtcaibgbhebldmaaGreat
