import Derived.Test.YtiiplikmoodfnaaGreatDoorRows
import Derived.Test.YtiiplikmoodfnaaGreatDoorCrc
import Derived.WalkKit
import Derived.WalkLawsBesides
import Derived.ProofKit
import Derived.OpenShut
import Derived.BigQuiet
import Derived.Laws.BitsAllLaws
import Derived.Laws.CopyOwn
import Derived.WalkSmall
import Derived.Shelf.LaysM
import Derived.Shelf.Strconv.Itoa4
import Derived.Shelf.LaysC
import Derived.Shelf.Strconv.ErrVarParseInt
import Derived.Test.YtiiplikmoodfnaaGreatDoorProg
import Derived.Test.YtiiplikmoodfnaaGreatDoorKLRef1
import Derived.Lib.ItoaMem
import Derived.Test.YtiiplikmoodfnaaGreatDoorKAMath
import Derived.Test.YtiiplikmoodfnaaGreatDoorKLFits
/-
  BYTES IN MEMORY: what a slice of bytes holds; the table of the check sum; small laws.
-/
namespace Go.Proofs.YtiiplikmoodfnaaGreatDoor
open Go.RowKit

/-- A SLICE OF BYTES: the address and what its cells hold. -/
def BytesAt (w : World) (ao : Option Addr) (zs : List Nat) : Prop :=
  (∀ z ∈ zs, z < 256) ∧ (zs = [] ∨ ∃ b off, ao = some ⟨b, off, none⟩ ∧ ∀ j, j < zs.length → w.cell? ⟨b, off + j, none⟩ = some (.int .u8 ((zs.getD j 0 : Nat) : Int)))

theorem getD_lt {zs : List Nat} (h : ∀ z ∈ zs, z < 256) (j : Nat) : zs.getD j 0 < 256 := by
  rw [List.getD_eq_getElem?_getD]
  cases e : zs[j]? with
  | none => simp
  | some z => simpa using h z (List.mem_of_getElem? e)
theorem take_lt {zs : List Nat} (h : ∀ z ∈ zs, z < 256) (k : Nat) : ∀ z ∈ zs.take k, z < 256 := fun z hz => h z (List.mem_of_mem_take hz)
theorem take_snoc (zs : List Nat) (k : Nat) (h : k < zs.length) : zs.take (k + 1) = zs.take k ++ [zs.getD k 0] := by
  rw [List.take_succ_eq_append_getElem h, List.getD_eq_getElem?_getD, List.getElem?_eq_getElem h]; rfl

theorem getD_left (xs ys : List Nat) (j : Nat) (h : j < xs.length) : (xs ++ ys).getD j 0 = xs.getD j 0 := by
  rw [List.getD_eq_getElem?_getD, List.getD_eq_getElem?_getD, List.getElem?_append_left h]
theorem getD_right (xs ys : List Nat) (j : Nat) (h : xs.length ≤ j) : (xs ++ ys).getD j 0 = ys.getD (j - xs.length) 0 := by
  rw [List.getD_eq_getElem?_getD, List.getD_eq_getElem?_getD, List.getElem?_append_right h]
theorem BytesAt.drewN {w : World} {ao : Option Addr} {zs : List Nat} (h : BytesAt w ao zs) (n : Nat) : BytesAt (w.drewN n) ao zs := h

end Go.Proofs.YtiiplikmoodfnaaGreatDoor
/-
  ROWS OF BYTES THAT A CALL HAS MADE; make, copy.
-/
namespace Go.Proofs.YtiiplikmoodfnaaGreatDoor
open Go.RowKit

/-- a byte as a value -/
def b8 (z : Nat) : Value := .int .u8 (z : Int)
def cellsU8 (L : List Nat) : Array Value := (L.map b8).toArray
theorem size_cellsU8 (L : List Nat) : (cellsU8 L).size = L.length := by simp [cellsU8]
theorem getElem?_cellsU8 (L : List Nat) (j : Nat) (h : j < L.length) : (cellsU8 L)[j]? = some (.int .u8 ((L.getD j 0 : Nat) : Int)) := by
  simp [cellsU8, b8, List.getD_eq_getElem?_getD, List.getElem?_eq_getElem h]
theorem set_cellsU8 (L : List Nat) (i z : Nat) : (cellsU8 L).setIfInBounds i (.int .u8 (z : Int)) = cellsU8 (L.set i z) := by
  apply Array.ext'
  simp [cellsU8, b8, List.map_set]
theorem made_cellsU8 (n : Nat) : madeCells #[.int .u8 0] n = cellsU8 (List.replicate n 0) := by
  apply Array.ext'
  rw [toList_madeCells_one]
  simp [cellsU8, b8]

/-- BLOCK g IS A ROW OF BYTES, L, of the call's own. -/
def RowAt (w : World) (g : Nat) (L : List Nat) : Prop := w.heap[g]? = some (.cells (cellsU8 L) 5 (0, 0))

theorem RowAt.cell {w : World} {g : Nat} {L : List Nat} (h : RowAt w g L) (j : Nat) (hj : j < L.length) : w.cell? ⟨g, j, none⟩ = some (.int .u8 ((L.getD j 0 : Nat) : Int)) := by
  have := getElem?_cellsU8 L j hj
  simp [World.cell?, show w.heap[g]? = _ from h, this]
theorem RowAt.frozen {w : World} {g : Nat} {L : List Nat} (h : RowAt w g L) (j : Nat) : w.frozen? ⟨g, j, none⟩ = false := frozen_of_row w g j _ _ h
theorem RowAt.set {w : World} {g : Nat} {L : List Nat} (h : RowAt w g L) (i z : Nat) : RowAt (w.setCell ⟨g, i, none⟩ (.int .u8 (z : Int))) g (L.set i z) := by
  have := heap_setCell_same w g i _ _ (.int .u8 (z : Int)) h
  rw [set_cellsU8] at this
  exact this
theorem RowAt.lt {w : World} {g : Nat} {L : List Nat} (h : RowAt w g L) : g < w.heap.size := (Array.getElem?_eq_some_iff.1 h).1
theorem RowAt.other {w : World} {g : Nat} {L : List Nat} (h : RowAt w g L) {a : Addr} (v : Value) (hne : g ≠ a.block) : RowAt (w.setCell a v) g L := by
  unfold RowAt; rw [heap_setCell_other w a g v hne]; exact h
theorem RowAt.below {w w1 : World} {g B : Nat} {L : List Nat} (h : RowAt w g L) (hb : Below B w w1) (hg : g < B) : RowAt w1 g L := by
  unfold RowAt; rw [hb.block g hg]; exact h
theorem RowAt.bytes {w : World} {g : Nat} {L : List Nat} (h : RowAt w g L) (hz : ∀ z ∈ L, z < 256) (off n : Nat) (hn : off + n ≤ L.length) : BytesAt w (some ⟨g, off, none⟩) ((L.drop off).take n) := by
  refine ⟨fun z hz' => hz z (List.mem_of_mem_drop (List.mem_of_mem_take hz')), .inr ⟨g, off, rfl, fun j hj => ?_⟩⟩
  have hj' : j < n := by simp at hj; omega
  rw [h.cell (off + j) (by omega)]
  congr 3
  simp [List.getD_eq_getElem?_getD, hj']
theorem RowAt.bytes0 {w : World} {g : Nat} {L R : List Nat} (h : RowAt w g (L ++ R)) (hz : ∀ z ∈ L, z < 256) : BytesAt w (some ⟨g, 0, none⟩) L := by
  refine ⟨hz, .inr ⟨g, 0, rfl, fun j hj => ?_⟩⟩
  rw [h.cell (0 + j) (by simp; omega), Nat.zero_add, getD_left _ _ _ hj]

theorem rowAt_alloc (w : World) (L : List Nat) : RowAt (w.alloc (.cells (cellsU8 L) 5)) w.heap.size L := by
  show (w.heap.push _)[w.heap.size]? = _
  simp

theorem BytesAt.below {w w1 : World} {ao : Option Addr} {zs : List Nat} (h : BytesAt w ao zs) {B : Nat} (hb : Below B w w1) (hlt : ∀ a, zs ≠ [] → ao = some a → a.block < B) : BytesAt w1 ao zs := by
  obtain ⟨hz, rfl | ⟨b, off, rfl, hc⟩⟩ := h
  · exact ⟨hz, .inl rfl⟩
  · refine ⟨hz, .inr ⟨b, off, rfl, fun j hj => ?_⟩⟩
    have hne : zs ≠ [] := by intro e; rw [e] at hj; simp at hj
    rw [hb.cell (p := ⟨b, off + j, none⟩) (hlt ⟨b, off, none⟩ hne rfl)]
    exact hc j hj
/-- what is read lies among the blocks that are there -/
theorem BytesAt.lt {w : World} {ao : Option Addr} {zs : List Nat} (h : BytesAt w ao zs) : ∀ a, zs ≠ [] → ao = some a → a.block < w.heap.size := by
  intro a hne he
  obtain ⟨_, rfl | ⟨b, off, rfl, hc⟩⟩ := h
  · exact absurd rfl hne
  · cases he
    have h0 := hc 0 (by cases zs with | nil => exact absurd rfl hne | cons z zs => simp)
    by_cases hlt : b < w.heap.size
    · exact hlt
    · have hn : w.heap[b]? = none := by simp; omega
      simp [World.cell?, hn] at h0
theorem BytesAt.kept {w w1 : World} {ao : Option Addr} {zs : List Nat} (h : BytesAt w ao zs) (hb : Below w.heap.size w w1) : BytesAt w1 ao zs := h.below hb h.lt

theorem oneCells (L : List Nat) : ∀ v ∈ (L.map b8), v.oneCell' = true := by
  intro v hv
  obtain ⟨z, _, rfl⟩ := List.mem_map.1 hv
  rfl
theorem bytes_src {w : World} {ao : Option Addr} {zs : List Nat} (h : BytesAt w ao zs) (hne : zs ≠ []) : ∃ ad, ao = some ad ∧ ∀ j v, (zs.map b8)[j]? = some v → w.cell? (ad.add j) = some v := by
  obtain ⟨_, rfl | ⟨b, off, rfl, hc⟩⟩ := h
  · exact absurd rfl hne
  · refine ⟨_, rfl, fun j v hv => ?_⟩
    have hj : j < zs.length := by
      have := (List.getElem?_eq_some_iff.1 hv).1
      simpa using this
    have e : (⟨b, off, none⟩ : Addr).add j = ⟨b, off + j, none⟩ := by unfold Addr.add; split <;> simp_all
    rw [e, hc j hj]
    have : v = .int .u8 ((zs.getD j 0 : Nat) : Int) := by
      simp [List.getElem?_map, List.getElem?_eq_getElem hj] at hv
      rw [← hv]; simp [b8, List.getD_eq_getElem?_getD, List.getElem?_eq_getElem hj]
    rw [this]

theorem setRow_alloc (w : World) (c c' : Array Value) (t : TypeId) : (w.alloc (.cells c t)).setRow w.heap.size c' = w.alloc (.cells c' t) := by
  unfold World.setRow World.alloc
  congr 1
  apply Array.ext_getElem?
  intro k
  simp only [Array.getElem?_modify, Array.getElem?_push]
  by_cases hk : k = w.heap.size
  · subst hk; simp
  · simp [hk, Ne.symm hk]

/-- 'copy' into a row that has just been made. -/
theorem copy_made (w : World) (ao : Option Addr) (n N cap ty : Nat) (zs : List Nat) (hn : n = zs.length) (h : BytesAt w ao zs) (hN : zs.length ≤ N)
    (hu : Tryz.prog.underlying 168 = some (.slice 5)) (hsz : (Tryz.prog.info? 5).map (·.size) = some 1) :
    (Builtin.copy_ #[168, 168] ty #[.slice (some ⟨w.heap.size, 0, none⟩) N N, .slice ao n cap]).run Tryz.prog (w.alloc (.cells (madeCells #[.int .u8 0] N) 5)) =
      .ok (.int .i64 (n : Int)) (w.alloc (.cells (cellsU8 (zs ++ List.replicate (N - zs.length) 0)) 5)) := by
  subst hn
  rw [made_cellsU8]
  by_cases h0 : zs = []
  · subst h0
    have := run_copy_none (P := Tryz.prog) (w.alloc (.cells (cellsU8 (List.replicate N 0)) 5)) 168 168 ty 5 (some ⟨w.heap.size, 0, none⟩) ao N N 0 cap hu hsz (by simp)
    simpa [goInt] using this
  · obtain ⟨ad, rfl, hsrc⟩ := bytes_src h h0
    have hlt := h.lt ad h0 rfl
    have hrow : (w.alloc (.cells (cellsU8 (List.replicate N 0)) 5)).heap[w.heap.size]? = some (.cells (cellsU8 (List.replicate N 0)) 5 (0, 0)) := rowAt_alloc w _
    have := run_copy_row (P := Tryz.prog) (w.alloc (.cells (cellsU8 (List.replicate N 0)) 5)) 168 168 ty 5 w.heap.size 0 N N ad zs.length cap (cellsU8 (List.replicate N 0)) 5
      (zs.map b8) hu hsz hrow (by rw [List.length_map]; exact (Nat.min_eq_left hN).symm) (fun j v hv => by
        rw [← hsrc j v hv]
        have hb : (ad.add j).block = ad.block := by unfold Addr.add; split <;> simp_all
        exact World.cell?_alloc_lt w _ _ (by omega)) (by rw [size_cellsU8]; simpa using hN) (oneCells zs)
    rw [this, setRow_alloc]
    simp [goInt, cellsU8]

theorem info8 : (Tryz.prog.info? 5).map (fun i => (i.zero, i.size, i.bytes)) = some (some (.int .u8 0), 1, 1) := by kernel_rfl
theorem size8 : (Tryz.prog.info? 5).map (·.size) = some 1 := by kernel_rfl
theorem bytes8 : Tryz.prog.bytesOf 5 = 1 := by kernel_rfl
/-- make([]byte, n) -/
theorem make_bytes (c : Nat) (C : Int) (hC : C = c) (hc : c ≤ 281474976710656) (u : World) : (Instr.makeSlice 168 (.int .i64 C) (.int .i64 C)).run Tryz.prog u =
    .ok (.slice (some ⟨u.heap.size, 0, none⟩) c c) (u.alloc (.cells (madeCells #[.int .u8 0] c) 5)) := by
  obtain ⟨i0, hi, hz0, hz1, hz2⟩ := info_parts info8
  subst hC
  have h := run_make (P := Tryz.prog) u 168 5 i0 (.int .u8 0) Tryz.underlying168 hi hz0 .i64 .i64 (c : Int) (c : Int) (by omega) (Int.le_refl _) (by rw [hz2]; omega) (by omega)
  simpa [hz1, Value.cells] using h

end Go.Proofs.YtiiplikmoodfnaaGreatDoor
/-
  THE LIBRARY's CONTRACTS OF strconv AT THIS DUMP: two tables of numbers and two theorems of closed facts, by program.
-/
namespace Go.Proofs.YtiiplikmoodfnaaGreatDoor
open Go.Shelf
def laysM173_ren : Go.Shelf.Ren := ⟨fun | 173 => 87 | 246 => 99 | 283 => 105 | 284 => 106 | 285 => 107 | 286 => 108 | 129 => 113 | 317 => 112 | 318 => 114 | 319 => 115 | 320 => 116 | 337 => 117 | 338 => 118 | n => n, fun | 2 => 2 | 3 => 3 | 9 => 9 | 4 => 4 | 171 => 194 | 0 => 0 | 53 => 153 | 37 => 168 | 5 => 5 | 173 => 197 | 212 => 208 | 51 => 199 | 20 => 20 | 213 => 209 | 46 => 185 | 232 => 212 | 233 => 213 | n => n, fun | 17 => 5 | 18 => 6 | 19 => 7 | n => n⟩
theorem laysM173 : Go.Proofs.LaysM.n173 Tryz.prog laysM173_ren := {
  mixed := by kernel_rfl
  f129 := Tryz.func113.trans (congrArg some (by kernel_rfl))
  f173 := Tryz.func87.trans (congrArg some (by kernel_rfl))
  f246 := Tryz.func99.trans (congrArg some (by kernel_rfl))
  f283 := Tryz.func105.trans (congrArg some (by kernel_rfl))
  f284 := Tryz.func106.trans (congrArg some (by kernel_rfl))
  f285 := Tryz.func107.trans (congrArg some (by kernel_rfl))
  f286 := Tryz.func108.trans (congrArg some (by kernel_rfl))
  f317 := Tryz.func112.trans (congrArg some (by kernel_rfl))
  f318 := Tryz.func114.trans (congrArg some (by kernel_rfl))
  f319 := Tryz.func115.trans (congrArg some (by kernel_rfl))
  f320 := Tryz.func116.trans (congrArg some (by kernel_rfl))
  f337 := Tryz.func117.trans (congrArg some (by kernel_rfl))
  f338 := Tryz.func118.trans (congrArg some (by kernel_rfl))
  t0 := Tryz.underlying0
  a0 := Tryz.isAgg0
  z0 := Tryz.sizeOf0
  v0 := Tryz.zeroValue0
  t2 := Tryz.underlying2
  a2 := Tryz.isAgg2
  z2 := Tryz.sizeOf2
  v2 := Tryz.zeroValue2
  t3 := Tryz.underlying3
  a3 := Tryz.isAgg3
  z3 := Tryz.sizeOf3
  v3 := Tryz.zeroValue3
  t4 := Tryz.underlying4
  a4 := Tryz.isAgg4
  z4 := Tryz.sizeOf4
  v4 := Tryz.zeroValue4
  t5 := Tryz.underlying5
  a5 := Tryz.isAgg5
  z5 := Tryz.sizeOf5
  v5 := Tryz.zeroValue5
  t9 := Tryz.underlying9
  a9 := Tryz.isAgg9
  z9 := Tryz.sizeOf9
  v9 := Tryz.zeroValue9
  t20 := Tryz.underlying20
  a20 := Tryz.isAgg20
  z20 := Tryz.sizeOf20
  v20 := Tryz.zeroValue20
  t37 := Tryz.underlying168
  a37 := Tryz.isAgg168
  z37 := Tryz.sizeOf168
  v37 := Tryz.zeroValue168
  t46 := Tryz.underlying185
  a46 := Tryz.isAgg185
  z46 := Tryz.sizeOf185
  v46 := Tryz.zeroValue185
  t51 := Tryz.underlying199
  a51 := Tryz.isAgg199
  z51 := Tryz.sizeOf199
  v51 := Tryz.zeroValue199
  t53 := Tryz.underlying153
  a53 := Tryz.isAgg153
  z53 := Tryz.sizeOf153
  v53 := Tryz.zeroValue153
  t171 := Tryz.underlying194
  a171 := Tryz.isAgg194
  z171 := Tryz.sizeOf194
  v171 := Tryz.zeroValue194
  t173 := Tryz.underlying197
  a173 := Tryz.isAgg197
  z173 := Tryz.sizeOf197
  v173 := Tryz.zeroValue197
  t212 := Tryz.underlying208
  a212 := Tryz.isAgg208
  z212 := Tryz.sizeOf208
  v212 := Tryz.zeroValue208
  t213 := Tryz.underlying209
  a213 := Tryz.isAgg209
  z213 := Tryz.sizeOf209
  t232 := Tryz.underlying212
  a232 := Tryz.isAgg212
  z232 := Tryz.sizeOf212
  v232 := Tryz.zeroValue212
  t233 := Tryz.underlying213
  a233 := Tryz.isAgg213
  z233 := Tryz.sizeOf213
  v233 := Tryz.zeroValue213
  g17 := by kernel_rfl
  g18 := by kernel_rfl
  g19 := by kernel_rfl
  i0 := by kernel_rfl
  i2 := by kernel_rfl
  i3 := by kernel_rfl
  i4 := by kernel_rfl
  i5 := by kernel_rfl
  i9 := by kernel_rfl
  i20 := by kernel_rfl
  i37 := by kernel_rfl
  i46 := by kernel_rfl
  i51 := by kernel_rfl
  i53 := by kernel_rfl
  i171 := by kernel_rfl
  i173 := by kernel_rfl
  i212 := by kernel_rfl
  i232 := by kernel_rfl
  i233 := by kernel_rfl
  m17 := by kernel_rfl
  m18 := by kernel_rfl
  m19 := by kernel_rfl }
def laysC174_ren : Go.Shelf.Ren := ⟨fun | 174 => 80 | 247 => 85 | 245 => 86 | 287 => 94 | 279 => 95 | 280 => 96 | 281 => 97 | 282 => 98 | 321 => 101 | 322 => 102 | 316 => 74 | 171 => 104 | 205 => 103 | 243 => 111 | 246 => 99 | 283 => 105 | 284 => 106 | 285 => 107 | 286 => 108 | 129 => 113 | 317 => 112 | 318 => 114 | 319 => 115 | 320 => 116 | 337 => 117 | 338 => 118 | n => n, fun | 9 => 9 | 3 => 3 | 2 => 2 | 75 => 28 | 85 => 135 | 4 => 4 | 167 => 182 | 5 => 5 | 53 => 153 | 175 => 183 | 46 => 185 | 168 => 186 | 37 => 168 | 0 => 0 | 210 => 193 | 21 => 21 | 127 => 172 | 145 => 206 | 143 => 204 | 171 => 194 | 173 => 197 | 212 => 208 | 51 => 199 | 20 => 20 | 213 => 209 | 232 => 212 | 233 => 213 | 80 => 214 | n => n, fun | 15 => 3 | 16 => 4 | 17 => 5 | 18 => 6 | 19 => 7 | n => n⟩
theorem laysC174 : Go.Proofs.LaysC.n174 Tryz.prog laysC174_ren := {
  mixed := by kernel_rfl
  f129 := Tryz.func113.trans (congrArg some (by kernel_rfl))
  f171 := Tryz.func104.trans (congrArg some (by kernel_rfl))
  f174 := Tryz.func80.trans (congrArg some (by kernel_rfl))
  f205 := Tryz.func103.trans (congrArg some (by kernel_rfl))
  f243 := Tryz.func111.trans (congrArg some (by kernel_rfl))
  f245 := Tryz.func86.trans (congrArg some (by kernel_rfl))
  f246 := Tryz.func99.trans (congrArg some (by kernel_rfl))
  f247 := Tryz.func85.trans (congrArg some (by kernel_rfl))
  f279 := Tryz.func95.trans (congrArg some (by kernel_rfl))
  f280 := Tryz.func96.trans (congrArg some (by kernel_rfl))
  f281 := Tryz.func97.trans (congrArg some (by kernel_rfl))
  f282 := Tryz.func98.trans (congrArg some (by kernel_rfl))
  f283 := Tryz.func105.trans (congrArg some (by kernel_rfl))
  f284 := Tryz.func106.trans (congrArg some (by kernel_rfl))
  f285 := Tryz.func107.trans (congrArg some (by kernel_rfl))
  f286 := Tryz.func108.trans (congrArg some (by kernel_rfl))
  f287 := Tryz.func94.trans (congrArg some (by kernel_rfl))
  f316 := Tryz.func74.trans (congrArg some (by kernel_rfl))
  f317 := Tryz.func112.trans (congrArg some (by kernel_rfl))
  f318 := Tryz.func114.trans (congrArg some (by kernel_rfl))
  f319 := Tryz.func115.trans (congrArg some (by kernel_rfl))
  f320 := Tryz.func116.trans (congrArg some (by kernel_rfl))
  f321 := Tryz.func101.trans (congrArg some (by kernel_rfl))
  f322 := Tryz.func102.trans (congrArg some (by kernel_rfl))
  f337 := Tryz.func117.trans (congrArg some (by kernel_rfl))
  f338 := Tryz.func118.trans (congrArg some (by kernel_rfl))
  t0 := Tryz.underlying0
  a0 := Tryz.isAgg0
  z0 := Tryz.sizeOf0
  v0 := Tryz.zeroValue0
  t2 := Tryz.underlying2
  a2 := Tryz.isAgg2
  z2 := Tryz.sizeOf2
  v2 := Tryz.zeroValue2
  t3 := Tryz.underlying3
  a3 := Tryz.isAgg3
  z3 := Tryz.sizeOf3
  v3 := Tryz.zeroValue3
  t4 := Tryz.underlying4
  a4 := Tryz.isAgg4
  z4 := Tryz.sizeOf4
  v4 := Tryz.zeroValue4
  t5 := Tryz.underlying5
  a5 := Tryz.isAgg5
  z5 := Tryz.sizeOf5
  v5 := Tryz.zeroValue5
  t9 := Tryz.underlying9
  a9 := Tryz.isAgg9
  z9 := Tryz.sizeOf9
  v9 := Tryz.zeroValue9
  t20 := Tryz.underlying20
  a20 := Tryz.isAgg20
  z20 := Tryz.sizeOf20
  v20 := Tryz.zeroValue20
  t21 := Tryz.underlying21
  a21 := Tryz.isAgg21
  z21 := Tryz.sizeOf21
  v21 := Tryz.zeroValue21
  t37 := Tryz.underlying168
  a37 := Tryz.isAgg168
  z37 := Tryz.sizeOf168
  v37 := Tryz.zeroValue168
  t46 := Tryz.underlying185
  a46 := Tryz.isAgg185
  z46 := Tryz.sizeOf185
  v46 := Tryz.zeroValue185
  t51 := Tryz.underlying199
  a51 := Tryz.isAgg199
  z51 := Tryz.sizeOf199
  v51 := Tryz.zeroValue199
  t53 := Tryz.underlying153
  a53 := Tryz.isAgg153
  z53 := Tryz.sizeOf153
  v53 := Tryz.zeroValue153
  t75 := Tryz.underlying28
  a75 := Tryz.isAgg28
  z75 := Tryz.sizeOf28
  v75 := Tryz.zeroValue28
  t85 := Tryz.underlying135
  a85 := Tryz.isAgg135
  z85 := Tryz.sizeOf135
  v85 := Tryz.zeroValue135
  t127 := Tryz.underlying172
  a127 := Tryz.isAgg172
  z127 := Tryz.sizeOf172
  v127 := Tryz.zeroValue172
  t143 := Tryz.underlying204
  a143 := Tryz.isAgg204
  z143 := Tryz.sizeOf204
  v143 := Tryz.zeroValue204
  t145 := Tryz.underlying206
  a145 := Tryz.isAgg206
  z145 := Tryz.sizeOf206
  v145 := Tryz.zeroValue206
  t167 := Tryz.underlying182
  a167 := Tryz.isAgg182
  z167 := Tryz.sizeOf182
  v167 := Tryz.zeroValue182
  t168 := Tryz.underlying186
  a168 := Tryz.isAgg186
  z168 := Tryz.sizeOf186
  v168 := Tryz.zeroValue186
  t171 := Tryz.underlying194
  a171 := Tryz.isAgg194
  z171 := Tryz.sizeOf194
  v171 := Tryz.zeroValue194
  t173 := Tryz.underlying197
  a173 := Tryz.isAgg197
  z173 := Tryz.sizeOf197
  v173 := Tryz.zeroValue197
  t175 := Tryz.underlying183
  a175 := Tryz.isAgg183
  z175 := Tryz.sizeOf183
  v175 := Tryz.zeroValue183
  t210 := Tryz.underlying193
  a210 := Tryz.isAgg193
  z210 := Tryz.sizeOf193
  v210 := Tryz.zeroValue193
  t212 := Tryz.underlying208
  a212 := Tryz.isAgg208
  z212 := Tryz.sizeOf208
  v212 := Tryz.zeroValue208
  t213 := Tryz.underlying209
  a213 := Tryz.isAgg209
  z213 := Tryz.sizeOf209
  t232 := Tryz.underlying212
  a232 := Tryz.isAgg212
  z232 := Tryz.sizeOf212
  v232 := Tryz.zeroValue212
  t233 := Tryz.underlying213
  a233 := Tryz.isAgg213
  z233 := Tryz.sizeOf213
  v233 := Tryz.zeroValue213
  g15 := by kernel_rfl
  g16 := by kernel_rfl
  g17 := by kernel_rfl
  g18 := by kernel_rfl
  g19 := by kernel_rfl
  t80 := Tryz.underlying214
  a80 := Tryz.isAgg214
  z80 := Tryz.sizeOf214
  v80 := Tryz.zeroValue214
  i0 := by kernel_rfl
  i2 := by kernel_rfl
  i3 := by kernel_rfl
  i4 := by kernel_rfl
  i5 := by kernel_rfl
  i9 := by kernel_rfl
  i20 := by kernel_rfl
  i21 := by kernel_rfl
  i37 := by kernel_rfl
  i46 := by kernel_rfl
  i51 := by kernel_rfl
  i53 := by kernel_rfl
  i75 := by kernel_rfl
  i80 := by kernel_rfl
  i85 := by kernel_rfl
  i127 := by kernel_rfl
  i143 := by kernel_rfl
  i145 := by kernel_rfl
  i167 := by kernel_rfl
  i168 := by kernel_rfl
  i171 := by kernel_rfl
  i173 := by kernel_rfl
  i175 := by kernel_rfl
  i210 := by kernel_rfl
  i212 := by kernel_rfl
  i232 := by kernel_rfl
  i233 := by kernel_rfl
  m15 := by kernel_rfl
  m16 := by kernel_rfl
  m17 := by kernel_rfl
  m18 := by kernel_rfl
  m19 := by kernel_rfl
  c0 := by kernel_rfl
  c2 := by kernel_rfl
  c3 := by kernel_rfl
  c4 := by kernel_rfl
  c5 := by kernel_rfl
  c9 := by kernel_rfl
  c20 := by kernel_rfl
  c21 := by kernel_rfl
  c37 := by kernel_rfl
  c46 := by kernel_rfl
  c51 := by kernel_rfl
  c53 := by kernel_rfl
  c75 := by kernel_rfl
  c80 := by kernel_rfl
  c85 := by kernel_rfl
  c127 := by kernel_rfl
  c143 := by kernel_rfl
  c145 := by kernel_rfl
  c167 := by kernel_rfl
  c168 := by kernel_rfl
  c171 := by kernel_rfl
  c173 := by kernel_rfl
  c175 := by kernel_rfl
  c210 := by kernel_rfl
  c212 := by kernel_rfl
  c213 := by kernel_rfl
  c232 := by kernel_rfl
  c233 := by kernel_rfl }
end Go.Proofs.YtiiplikmoodfnaaGreatDoor
/-
  THE LIBRARY's TABLE OF POWERS OF TEN; codec.Digits.
-/
namespace Go.Proofs.YtiiplikmoodfnaaGreatDoor
open Go.RowKit Go.Shelf

theorem byteList (s : ByteArray) : s.toList = s.data.toList := ByteArray.toList_eq s
/-- what the library's table holds -/
def DigVars (w : World) : Prop := Lib.TabIs Tryz.prog w "internal/strconv.uint64pow10" .u64 Lib.pow10Tab
theorem var_lt {P : Program} {w : World} {n : String} {cs : Array Value} {g : Nat} (hg : P.globalNamed n = some g) (h : w.var? P n = some cs) : g < w.heap.size := by
  unfold World.var? at h
  rw [hg, Option.bind_some] at h
  by_cases hlt : g < w.heap.size
  · exact hlt
  · have hn : w.heap[g]? = none := Array.getElem?_eq_none_iff.2 (by omega)
    rw [hn] at h; cases h
theorem var_kept {w w1 : World} {n : String} {cs : Array Value} {g : Nat} (hg : Tryz.prog.globalNamed n = some g) (h : w.var? Tryz.prog n = some cs) (hb : Below w.heap.size w w1) : w1.var? Tryz.prog n = some cs :=
  var?_below hb hg (var_lt hg h) h
theorem gPow : Tryz.prog.globalNamed "internal/strconv.uint64pow10" = some 5 := by kernel_rfl
theorem DigVars.kept {w w1 : World} (h : DigVars w) (hb : Below w.heap.size w w1) : DigVars w1 := var_kept gPow h hb

theorem grow_below (w : World) (k : Nat) (os : Array Obj) : Below w.heap.size w (Sort.grow (w.drewN k) os) :=
  ⟨rfl, rfl, rfl, by simp [Sort.grow], fun i hi => by simp [Sort.grow]; rw [Array.getElem?_append_left hi]⟩

theorem formatInt_any (w : World) (n : Int) (h0 : -9223372036854775808 ≤ n) (h1 : n ≤ 9223372036854775807) (hv : DigVars w) :
    Calls Tryz.prog 87 #[.int .i64 n, .int .i64 10] w fun e w' => e = .returned (.string ⟨(Lib.itoa n).toArray⟩) ∧ Below w.heap.size w w' := by
  refine (show Calls Tryz.prog 87 #[.int .i64 n, .int .i64 10] w _ from Any.strconv_FormatInt_10 laysM173 n h0 h1 w hv).mono ?_
  rintro e w' ⟨rfl, k, os, rfl⟩
  exact ⟨rfl, grow_below w k os⟩

end Go.Proofs.YtiiplikmoodfnaaGreatDoor
/-
  THE WALK OF preluderef01.Digits.
-/
namespace Go.Proofs.YtiiplikmoodfnaaGreatDoor
open Go.RowKit Go.Sort

def str (l : List UInt8) : Value := .string ⟨l.toArray⟩
/-- what the loop holds: the digits that are still to come, and those that are there -/
def Tail (u r : Nat) (l : List UInt8) : Prop := if r = 0 then l = Lib.decDigits u else Lib.decDigits r ++ l = Lib.decDigits u
theorem Tail.step {u r : Nat} {l : List UInt8} (h : Tail u r l) (hr : r ≠ 0) : Tail u (r / 10) (UInt8.ofNat (48 + r % 10) :: l) := by
  unfold Tail at *
  rw [if_neg hr] at h
  by_cases h10 : r < 10
  · rw [if_pos (by omega), ← h, Lib.decDigits_one h10, show r % 10 = r by omega]; rfl
  · rw [if_neg (by omega), ← h, Dec.decDigits_rec r h10, List.append_assoc]; rfl

theorem Tail.le {u r : Nat} {l : List UInt8} (h : Tail u r l) (hu : u ≤ 9223372036854775808) : l.length ≤ 19 := by
  have hl := Dec.len_digits u hu
  unfold Tail at h
  split at h
  · rw [h]; exact hl
  · rw [← h, List.length_append] at hl; omega

theorem one_string (w : World) (q : Nat) : (convert 168 9 (.slice (some ⟨w.heap.size, 0, none⟩) 1 1)).run Tryz.prog (w.alloc (.cells #[.int .u8 (48 + (q : Int) % 10)] 5)) =
    .ok (.string ⟨[UInt8.ofNat (48 + q % 10)].toArray⟩) (w.alloc (.cells #[.int .u8 (48 + (q : Int) % 10)] 5)) := by
  refine run_convert_bytes_back (P := Tryz.prog) _ 168 9 5 ⟨w.heap.size, 0, none⟩ 1 [UInt8.ofNat (48 + q % 10)] Tryz.underlying168 Tryz.underlying5 Tryz.underlying9 ?_
  intro j hj
  obtain rfl : j = 0 := by simp at hj; omega
  have e : (⟨w.heap.size, 0, none⟩ : Addr).add 0 = ⟨w.heap.size, 0, none⟩ := rfl
  rw [e, World.cell?_alloc_at _ _ _ _ rfl]
  simp only [List.getElem_cons_zero, Dec.digit_toNat (q % 10) (by omega)]
  simp

/-- the loop, from a number above nought on -/
theorem cat (c : UInt8) (l : List UInt8) : (ByteArray.mk #[c] ++ ByteArray.mk l.toArray) = ByteArray.mk (c :: l).toArray := by
  have := ByteArray.mk_append_mk [c] l
  simpa using this
theorem d48 (x : Nat) : (48 : UInt8) + UInt8.ofNat x = UInt8.ofNat (48 + x) := by rw [UInt8.ofNat_add]; rfl
theorem size_mk (l : List UInt8) : (ByteArray.mk l.toArray).size = l.length := by simp [ByteArray.size]

set_option maxHeartbeats 400000 in
theorem refDigits_pos (w : World) (u : Nat) (h0 : 0 < u) (h1 : u ≤ 9223372036854775807) :
    Calls Tryz.prog 60 #[.int .i64 (u : Int)] w fun e w' => e = .returned (str (Lib.decDigits u)) ∧ Grew w w' := by
  have hz : ((u : Int) == 0) = false := by rw [beq_eq_false_iff_ne]; omega
  have hst := one_string
  go_enter Tryz.func60, Tryz.ntmps60
  go_wp2
  go_loopw [4, 5] (fun r s wr => ∃ (q : Nat) (l : List UInt8), r = .int .u64 (q : Int) ∧ s = .string ⟨l.toArray⟩ ∧ q ≤ u ∧ Hid (Tail u q l) ∧ Hid (Grew w wr)) (fun r _ _ => (intOf r).toNat)
  case atStart => exact ⟨u, [], rfl, rfl, Nat.le_refl _, by unfold Tail; rw [Hid, if_neg (by omega), List.append_nil], Grew.refl _⟩
  case round =>
    obtain ⟨q, l, rfl, rfl, hq, ht, hb⟩ := hrel
    by_cases hr : q = 0
    · subst hr
      have HL : Hid (l = Lib.decDigits u) := by have := ht.out; unfold Tail at this; rwa [if_pos rfl] at this
      have hl := ht.out.le (by omega)
      have hs : ¬ ((ByteArray.mk #[]).size + (ByteArray.mk l.toArray).size > 9223372036854775807) := by rw [size_mk]; simp [ByteArray.size]; omega
      go_wp2
      go_ret
      exact ⟨by rw [← HL.out]; simp [str, ByteArray.mk_append_mk], hb.out⟩
    · have hq0 : (0 : Int) < (q : Int) := by omega
      have hl := ht.out.le (by omega)
      have hs : ¬ ((ByteArray.mk #[UInt8.ofNat (48 + q % 10)]).size + (ByteArray.mk l.toArray).size > 9223372036854775807) := by rw [size_mk]; simp [ByteArray.size]; omega
      have HB' := hb.out
      go_wp2
      go_roundw
      case rel => exact ⟨q / 10, UInt8.ofNat (48 + q % 10) :: l, by go_num, by rw [d48, cat], by omega, ht.out.step hr, hb.out.alloc _⟩
      case measure => simp [intOf]; omega

set_option maxHeartbeats 400000 in
theorem refDigits_neg (w : World) (u : Nat) (h0 : 0 < u) (h1 : u ≤ 9223372036854775808) :
    Calls Tryz.prog 60 #[.int .i64 (-(u : Int))] w fun e w' => e = .returned (str (45 :: Lib.decDigits u)) ∧ Grew w w' := by
  have hz : (-(u : Int) == 0) = false := by rw [beq_eq_false_iff_ne]; omega
  have hst := one_string
  go_enter Tryz.func60, Tryz.ntmps60
  go_wp2
  go_loopw [4, 5] (fun r s wr => ∃ (q : Nat) (l : List UInt8), r = .int .u64 (q : Int) ∧ s = .string ⟨l.toArray⟩ ∧ q ≤ u ∧ Hid (Tail u q l) ∧ Hid (Grew w wr)) (fun r _ _ => (intOf r).toNat)
  case atStart => exact ⟨u, [], by go_num, rfl, Nat.le_refl _, by unfold Tail; rw [Hid, if_neg (by omega), List.append_nil], Grew.refl _⟩
  case round =>
    obtain ⟨q, l, rfl, rfl, hq, ht, hb⟩ := hrel
    by_cases hr : q = 0
    · subst hr
      have HL : Hid (l = Lib.decDigits u) := by have := ht.out; unfold Tail at this; rwa [if_pos rfl] at this
      have hl := ht.out.le (by omega)
      have hs : ¬ ((ByteArray.mk #[45]).size + (ByteArray.mk l.toArray).size > 9223372036854775807) := by rw [size_mk]; simp [ByteArray.size]; omega
      go_wp2
      go_ret
      exact ⟨by rw [← HL.out]; simp [str, cat], hb.out⟩
    · have hq0 : (0 : Int) < (q : Int) := by omega
      have hl := ht.out.le (by omega)
      have hs : ¬ ((ByteArray.mk #[UInt8.ofNat (48 + q % 10)]).size + (ByteArray.mk l.toArray).size > 9223372036854775807) := by rw [size_mk]; simp [ByteArray.size]; omega
      go_wp2
      go_roundw
      case rel => exact ⟨q / 10, UInt8.ofNat (48 + q % 10) :: l, by go_num, by rw [d48, cat], by omega, ht.out.step hr, hb.out.alloc _⟩
      case measure => simp [intOf]; omega

/-- preluderef01.Digits, at every int64. -/
theorem refDigits_any (w : World) (n : Int) (h0 : -9223372036854775808 ≤ n) (h1 : n ≤ 9223372036854775807) :
    Calls Tryz.prog 60 #[.int .i64 n] w fun e w' => e = .returned (.string ⟨(Lib.itoa n).toArray⟩) ∧ Grew w w' := by
  by_cases hn : n < 0
  · obtain ⟨u, hu⟩ : ∃ u : Nat, n = -(u : Int) := ⟨n.natAbs, by omega⟩
    subst hu
    rw [Lib.itoa_neg u (by omega)]
    exact refDigits_neg w u (by omega) (by omega)
  · obtain ⟨u, rfl⟩ := Int.eq_ofNat_of_zero_le (show 0 ≤ n by omega)
    rw [Lib.itoa_nonneg]
    by_cases hz : u = 0
    · subst hz
      go_enter Tryz.func60, Tryz.ntmps60
      go_wp2
      go_ret
      exact ⟨by rw [Lib.decDigits_one (by omega)]; rfl, Grew.refl _⟩
    · exact refDigits_pos w u (by omega) (by omega)

end Go.Proofs.YtiiplikmoodfnaaGreatDoor
/-
  A LISTING'S TEXTS: the walks of Digits, labelOf, isJump, instruction.
-/
namespace Go.Proofs.YtiiplikmoodfnaaGreatDoor
open Go.RowKit Go.Sort Go.Shelf

/-- signs as a text -/
def S (l : List UInt8) : ByteArray := ⟨l.toArray⟩
theorem S_app (a b : List UInt8) : S a ++ S b = S (a ++ b) := ByteArray.mk_append_mk a b
theorem S_size (l : List UInt8) : (S l).size = l.length := by simp [S, ByteArray.size]
theorem S_of (s : ByteArray) : S s.data.toList = s := by simp [S]
theorem S_fit (a b : List UInt8) (h : a.length + b.length ≤ 9223372036854775807) : ¬ ((S a).size + (S b).size > 9223372036854775807) := by rw [S_size, S_size]; omega
/-- a number's digits -/
def dg (n : Int) : List UInt8 := Lib.itoa n
theorem dg_len {n : Int} (h : In64 n) : (dg n).length ≤ 20 := by
  unfold dg
  by_cases hn : n < 0
  · obtain ⟨u, hu⟩ : ∃ u : Nat, n = -(u : Int) := ⟨n.natAbs, by omega⟩
    subst hu
    have := Dec.len_digits u (by have := h.1; omega)
    rw [Lib.itoa_neg u (by omega)]; simp; omega
  · obtain ⟨u, rfl⟩ := Int.eq_ofNat_of_zero_le (show 0 ≤ n by omega)
    have := Dec.len_digits u (by have := h.2; omega)
    rw [Lib.itoa_nonneg]; omega
theorem digits_any (w : World) (n : Int) (h : In64 n) (hv : DigVars w) : Calls Tryz.prog 81 #[.int .i64 n] w fun e w' => e = .returned (.string (S (dg n))) ∧ Grew w w' := by
  go_enter Tryz.func81, Tryz.ntmps81
  go_wp2_with fail
  refine (show Calls Tryz.prog 87 #[.int .i64 n, .int .i64 10] w _ from Any.strconv_FormatInt_10 laysM173 n h.1 h.2 w hv).mono ?_
  rintro e w' ⟨rfl, k, os, rfl⟩
  have HG : Hid (Grew w (Sort.grow (w.drewN k) os)) := ⟨k, os, rfl⟩
  go_wp2
  go_ret
  exact ⟨rfl, HG.out⟩
def labelL (n : Int) : List UInt8 := 76 :: dg n
theorem labelL_len {n : Int} (h : In64 n) : (labelL n).length ≤ 21 := by have := dg_len h; simp [labelL]; omega
theorem isJump_any (w : World) (op : Int) : Calls Tryz.prog 70 #[.int .i64 op] w fun e w' => e = .returned (.bool (jumpB op)) ∧ w' = w := by
  go_enter Tryz.func70, Tryz.ntmps70
  by_cases h1 : op = 30
  · subst h1
    go_wp2
    go_ret
    exact ⟨rfl, rfl⟩
  · by_cases h2 : op = 31
    · subst h2
      go_wp2
      go_ret
      exact ⟨rfl, rfl⟩
    · have h1' : (op == 30) = false := by simpa using h1
      have h2' : (op == 31) = false := by simpa using h2
      have HE : Hid (jumpB op = false) := by simp [Hid, jumpB, h1, h2]
      clear h1 h2
      go_wp2
      go_ret
      exact ⟨by rw [HE.out]; rfl, rfl⟩
/-- an instruction's name -/
def sp (op : Int) : List UInt8 := (spellS op).data.toList
theorem sp_len (op : Int) : (sp op).length ≤ 8 := by
  unfold sp
  cases ho : isOpB op with
  | false => rw [spellS_no ho]; simp
  | true =>
    rw [spellS_op ho]
    have ho' := ho
    simp only [isOpB, Bool.and_eq_true, decide_eq_true_eq] at ho'
    obtain ⟨i, rfl⟩ := Int.eq_ofNat_of_zero_le ho'.1
    have hi : i < 37 := by omega
    have : ∀ j : Nat, j < 37 → (nmOf (j : Int)).data.toList.length ≤ 8 := by decide +kernel
    exact this i hi
/-- an instruction, and its argument -/
def instrL (k : K) : List UInt8 := if jumpB k.1 = true then sp k.1 ++ 32 :: labelL k.2 else if wantsB k.1 = true then sp k.1 ++ 32 :: dg k.2 else sp k.1
theorem instrL_len {k : K} (h : KIn k) : (instrL k).length ≤ 40 := by
  have h1 := sp_len k.1
  have h2 := dg_len h.2
  unfold instrL
  split
  · simp [labelL]; omega
  · split
    · simp; omega
    · omega
end Go.Proofs.YtiiplikmoodfnaaGreatDoor
/-
  split: LINES AND WORDS IN MEMORY.
-/
namespace Go.Proofs.YtiiplikmoodfnaaGreatDoor
open Go.RowKit Go.Sort

def wcs : List Wd → List Value
  | [] => []
  | x :: ws => .string (S x.1) :: .int .i64 (x.2 : Int) :: wcs ws
theorem wcs_len (ws : List Wd) : (wcs ws).length = ws.length * 2 := by
  induction ws with
  | nil => rfl
  | cons x ws ih => simp only [wcs, List.length_cons, ih]; omega
theorem wcs_app (a b : List Wd) : wcs (a ++ b) = wcs a ++ wcs b := by
  induction a with
  | nil => rfl
  | cons x a ih => simp [wcs, ih]
theorem wcs_one (ws : List Wd) : ∀ v ∈ wcs ws, v.oneCell' = true := by
  induction ws with
  | nil => simp [wcs]
  | cons x ws ih =>
    intro v hv
    simp only [wcs, List.mem_cons] at hv
    rcases hv with rfl | rfl | h
    · rfl
    · rfl
    · exact ih v h
/-- a line's words, in a row between M and N -/
def LnAt (W : World) (M N : Nat) (v : Value) (ws : List Wd) : Prop := W.ownsRow M 83 2 v ws.length (wcs ws) ∧ ∀ g, v.ownBlock = some g → g < N
def LnsAt (W : World) (M N : Nat) (vals : List Value) (ls : List (List Wd)) : Prop := vals.length = ls.length ∧ ∀ (i : Nat) (v : Value) (ws : List Wd), vals[i]? = some v → ls[i]? = some ws → LnAt W M N v ws
theorem LnAt.same {W W' : World} {M N : Nat} {v : Value} {ws : List Wd} (h : LnAt W M N v ws) (hs : ∀ g, v.ownBlock = some g → W'.heap[g]? = W.heap[g]?) : LnAt W' M N v ws := ⟨ownsRow_same h.1 hs, h.2⟩
theorem LnsAt.same {W W' : World} {M N : Nat} {vals : List Value} {ls : List (List Wd)} (h : LnsAt W M N vals ls) (hs : ∀ g v ws, LnAt W M N v ws → v.ownBlock = some g → W'.heap[g]? = W.heap[g]?) : LnsAt W' M N vals ls :=
  ⟨h.1, fun i v ws h1 h2 => (h.2 i v ws h1 h2).same (fun g hg => hs g v ws (h.2 i v ws h1 h2) hg)⟩
/-- the state of split -/
structure SpI (w W : World) (sb : ByteArray) (k N : Nat) (x : Sc) (vl vw : Value) : Prop where
  it : W.heap[w.heap.size]? = some (.stringIter sb k)
  bel : Go.RowKit.Below w.heap.size w W
  lo : w.heap.size + 1 ≤ N
  hi : N ≤ W.heap.size
  ln : ∃ vals, W.ownsRow (w.heap.size + 1) 61 1 vl x.lines.length vals ∧ LnsAt W (w.heap.size + 1) N vals x.lines ∧ ∀ v ∈ vals, v.oneCell' = true
  wd : W.ownsRow N 83 2 vw x.words.length (wcs x.words)
section
variable {w W W' : World} {sb : ByteArray} {k N : Nat} {x : Sc} {vl vw v' : Value}
theorem SpI.kept (h : SpI w W sb k N x vl vw) (hb : Go.RowKit.Below W.heap.size W W') : SpI w W' sb k N x vl vw := by
  obtain ⟨vals, h1, h2, h3⟩ := h.ln
  have hlt : w.heap.size < W.heap.size := by have := h.lo; have := h.hi; omega
  exact ⟨(hb.block _ hlt).trans h.it, h.bel.trans (hb.mono h.bel.size), h.lo, Nat.le_trans h.hi hb.size, ⟨vals, ownsRow_same h1 (fun g hg => hb.block g (World.ownsRow.lt h1 g hg).2), h2.same (fun g v ws hl hg => hb.block g (World.ownsRow.lt hl.1 g hg).2), h3⟩, ownsRow_same h.wd (fun g hg => hb.block g (World.ownsRow.lt h.wd g hg).2)⟩
theorem SpI.move (h : SpI w W sb k N x vl vw) (k' : Nat) : SpI w (W.iterAt w.heap.size sb k') sb k' N x vl vw := by
  obtain ⟨vals, h1, h2, h3⟩ := h.ln
  have hlo := h.lo
  have ho : ∀ g, w.heap.size + 1 ≤ g → (W.iterAt w.heap.size sb k').heap[g]? = W.heap[g]? := fun g hg => Lib.iterAt_other W w.heap.size g sb k' (by omega)
  exact ⟨Lib.iterAt_heap W w.heap.size sb k k' h.it, Lib.below_iterAt h.bel (Nat.le_refl _) sb k', h.lo, by rw [Lib.iterAt_size]; exact h.hi, ⟨vals, ownsRow_same h1 (fun g hg => ho g (World.ownsRow.lt h1 g hg).1), h2.same (fun g v ws hl hg => ho g (World.ownsRow.lt hl.1 g hg).1), h3⟩, ownsRow_same h.wd (fun g hg => ho g (by have := (World.ownsRow.lt h.wd g hg).1; omega))⟩
/-- other fields of the state -/
theorem SpI.turn (h : SpI w W sb k N x vl vw) (y : Sc) (h1 : y.lines = x.lines) (h2 : y.words = x.words) : SpI w W sb k N y vl vw := ⟨h.it, h.bel, h.lo, h.hi, by rw [h1]; exact h.ln, by rw [h2]; exact h.wd⟩
/-- a word more -/
theorem SpI.word (h : SpI w W sb k N x vl vw) {z : Wd} (h1 : W'.ownsRow N 83 2 v' (x.words.length + 1) (wcs x.words ++ wcs [z])) (h2 : W.grownBy W' vw.ownBlock) (y : Sc) (e1 : y.lines = x.lines) (e2 : y.words = x.words ++ [z]) : SpI w W' sb k N y vl v' := by
  obtain ⟨vals, l1, l2, l3⟩ := h.ln
  have hlo := h.lo; have hhi := h.hi
  have hb : ∀ b, b < W.heap.size → b < N → W'.heap[b]? = W.heap[b]? := fun b hb hn => h2.block b hb (fun e => by have := (World.ownsRow.lt h.wd b e.symm).1; omega)
  refine ⟨(hb _ (by omega) (by omega)).trans h.it, h.bel.trans ⟨h2.os, h2.tape, h2.output, h2.size, fun b hb' => hb b (by omega) (by omega)⟩, h.lo, Nat.le_trans h.hi h2.size, ⟨vals, ?_, ?_, l3⟩, ?_⟩
  · rw [e1]; exact ownsRow_same l1 (fun g hg => h2.block g (World.ownsRow.lt l1 g hg).2 (fun e => own_apart l1 h.wd (by decide) hg e.symm))
  · rw [e1]; exact l2.same (fun g v ws hl hg => hb g (World.ownsRow.lt hl.1 g hg).2 (hl.2 g hg))
  · rw [e2, List.length_append, wcs_app]; exact h1
/-- a line more -/
theorem SpI.line (h : SpI w W sb k N x vl vw) {vals : List Value} (l1 : W.ownsRow (w.heap.size + 1) 61 1 vl x.lines.length vals) (l2 : LnsAt W (w.heap.size + 1) N vals x.lines) (l3 : ∀ v ∈ vals, v.oneCell' = true) (hv : vw.oneCell' = true) (h1 : W'.ownsRow (w.heap.size + 1) 61 1 v' (x.lines.length + 1) (vals ++ [vw])) (h2 : W.grownBy W' vl.ownBlock) (y : Sc) (e1 : y.lines = x.lines ++ [x.words]) (e2 : y.words = []) : SpI w W' sb k W'.heap.size y v' (.slice none 0 0) := by
  have hlo := h.lo; have hhi := h.hi; have hs := h2.size
  have hb : ∀ b, b < W.heap.size → (∀ g, vl.ownBlock = some g → g ≠ b) → W'.heap[b]? = W.heap[b]? := fun b hb hn => h2.block b hb (fun e => hn b e.symm rfl)
  have hw : ∀ {v : Value} {ws : List Wd} {M : Nat}, W.ownsRow M 83 2 v ws.length (wcs ws) → W'.ownsRow M 83 2 v ws.length (wcs ws) := fun hl => ownsRow_same hl (fun g hg => h2.block g (World.ownsRow.lt hl g hg).2 (fun e => own_apart hl l1 (by decide) hg e.symm))
  refine ⟨(hb _ (by omega) (fun g hg => by have := (World.ownsRow.lt l1 g hg).1; omega)).trans h.it, h.bel.trans ⟨h2.os, h2.tape, h2.output, h2.size, fun b hb' => hb b (by omega) (fun g hg => by have := (World.ownsRow.lt l1 g hg).1; omega)⟩, by omega, Nat.le_refl _, ⟨vals ++ [vw], ?_, ⟨?_, ?_⟩, ?_⟩, ?_⟩
  · rw [e1, List.length_append]; exact h1
  · rw [e1, List.length_append, List.length_append, l2.1]; rfl
  · intro i v ws hi hj
    rw [e1] at hj
    by_cases hlt : i < x.lines.length
    · rw [List.getElem?_append_left (by rw [l2.1]; exact hlt)] at hi
      rw [List.getElem?_append_left hlt] at hj
      have hl := l2.2 i v ws hi hj
      exact ⟨hw hl.1, fun g hg => by have := hl.2 g hg; omega⟩
    · rw [List.getElem?_append_right (by omega)] at hj
      rw [List.getElem?_append_right (by rw [l2.1]; omega), l2.1] at hi
      have hi0 : i - x.lines.length = 0 := by
        rcases Nat.eq_zero_or_pos (i - x.lines.length) with h0 | h0
        · exact h0
        · rw [List.getElem?_eq_none (by simp; omega)] at hj; cases hj
      rw [hi0] at hi hj
      simp only [List.getElem?_cons_zero, Option.some.injEq] at hi hj
      subst hi hj
      exact ⟨ownsRow_mono (hw h.wd) (by omega), fun g hg => by have := (World.ownsRow.lt h.wd g hg).2; omega⟩
  · intro v hv'
    rcases List.mem_append.1 hv' with h' | h'
    · exact l3 v h'
    · simp only [List.mem_singleton] at h'; subst h'; exact hv
  · rw [e2]; exact World.ownsRow_nil _ _ _ _
end
theorem SpI.start (w : World) (sb : ByteArray) : SpI w (w.iter sb 0) sb 0 (w.heap.size + 1) ⟨[], [], 0, none, false⟩ (.slice none 0 0) (.slice none 0 0) :=
  ⟨World.iter_heap w sb 0, (Below.refl _ _).alloc (Nat.le_refl _) _, Nat.le_refl _, by simp [World.iter], ⟨[], World.ownsRow_nil _ _ _ _, ⟨rfl, fun i v ws h => by simp at h⟩, by simp⟩, World.ownsRow_nil _ _ _ _⟩
theorem S_piece (l : List UInt8) (f t : Nat) : (S l).extract f t = S (pieceL l f t) := by
  have h : ((S l).extract f t).data.toList = pieceL l f t := by
    unfold pieceL
    rw [ByteArray.data_extract, Array.toList_extract, List.extract_eq_take_drop, List.drop_take]
    rfl
  rw [← h]
  exact (S_of _).symm
end Go.Proofs.YtiiplikmoodfnaaGreatDoor
