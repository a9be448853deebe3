import Derived.Test.YtmkomfbjgmgemaaGreatDoorRows
import Derived.Test.YtmkomfbjgmgemaaGreatDoorCrc
import Derived.WalkKit
import Derived.WalkLawsBesides
import Derived.ProofKit
import Derived.OpenShut
import Derived.BigQuiet
import Derived.Laws.BitsAllLaws
import Derived.Laws.CopyOwn
import Derived.WalkSmall
import Derived.Shelf.LaysM
import Derived.Shelf.Strconv.Itoa4
import Derived.Shelf.LaysC
import Derived.Shelf.Strconv.ErrVarParseInt
import Derived.Test.YtmkomfbjgmgemaaGreatDoorProg
import Derived.Test.YtmkomfbjgmgemaaGreatDoorJLawNames
import Derived.Lib.ItoaMem
/-
  BYTES IN MEMORY: what a slice of bytes holds; the table of the check sum; small laws.
-/
namespace Go.Proofs.YtmkomfbjgmgemaaGreatDoor
open Go.RowKit

/-- A SLICE OF BYTES: the address and what its cells hold. -/
def BytesAt (w : World) (ao : Option Addr) (zs : List Nat) : Prop :=
  (∀ z ∈ zs, z < 256) ∧ (zs = [] ∨ ∃ b off, ao = some ⟨b, off, none⟩ ∧ ∀ j, j < zs.length → w.cell? ⟨b, off + j, none⟩ = some (.int .u8 ((zs.getD j 0 : Nat) : Int)))

theorem getD_lt {zs : List Nat} (h : ∀ z ∈ zs, z < 256) (j : Nat) : zs.getD j 0 < 256 := by
  rw [List.getD_eq_getElem?_getD]
  cases e : zs[j]? with
  | none => simp
  | some z => simpa using h z (List.mem_of_getElem? e)
theorem take_lt {zs : List Nat} (h : ∀ z ∈ zs, z < 256) (k : Nat) : ∀ z ∈ zs.take k, z < 256 := fun z hz => h z (List.mem_of_mem_take hz)
theorem take_snoc (zs : List Nat) (k : Nat) (h : k < zs.length) : zs.take (k + 1) = zs.take k ++ [zs.getD k 0] := by
  rw [List.take_succ_eq_append_getElem h, List.getD_eq_getElem?_getD, List.getElem?_eq_getElem h]; rfl

theorem getD_left (xs ys : List Nat) (j : Nat) (h : j < xs.length) : (xs ++ ys).getD j 0 = xs.getD j 0 := by
  rw [List.getD_eq_getElem?_getD, List.getD_eq_getElem?_getD, List.getElem?_append_left h]
theorem getD_right (xs ys : List Nat) (j : Nat) (h : xs.length ≤ j) : (xs ++ ys).getD j 0 = ys.getD (j - xs.length) 0 := by
  rw [List.getD_eq_getElem?_getD, List.getD_eq_getElem?_getD, List.getElem?_append_right h]
theorem BytesAt.drewN {w : World} {ao : Option Addr} {zs : List Nat} (h : BytesAt w ao zs) (n : Nat) : BytesAt (w.drewN n) ao zs := h

end Go.Proofs.YtmkomfbjgmgemaaGreatDoor
/-
  ROWS OF BYTES THAT A CALL HAS MADE; make, copy.
-/
namespace Go.Proofs.YtmkomfbjgmgemaaGreatDoor
open Go.RowKit

/-- a byte as a value -/
def b8 (z : Nat) : Value := .int .u8 (z : Int)
def cellsU8 (L : List Nat) : Array Value := (L.map b8).toArray
theorem size_cellsU8 (L : List Nat) : (cellsU8 L).size = L.length := by simp [cellsU8]
theorem getElem?_cellsU8 (L : List Nat) (j : Nat) (h : j < L.length) : (cellsU8 L)[j]? = some (.int .u8 ((L.getD j 0 : Nat) : Int)) := by
  simp [cellsU8, b8, List.getD_eq_getElem?_getD, List.getElem?_eq_getElem h]
theorem set_cellsU8 (L : List Nat) (i z : Nat) : (cellsU8 L).setIfInBounds i (.int .u8 (z : Int)) = cellsU8 (L.set i z) := by
  apply Array.ext'
  simp [cellsU8, b8, List.map_set]
theorem made_cellsU8 (n : Nat) : madeCells #[.int .u8 0] n = cellsU8 (List.replicate n 0) := by
  apply Array.ext'
  rw [toList_madeCells_one]
  simp [cellsU8, b8]

/-- BLOCK g IS A ROW OF BYTES, L, of the call's own. -/
def RowAt (w : World) (g : Nat) (L : List Nat) : Prop := w.heap[g]? = some (.cells (cellsU8 L) 5 (0, 0))

theorem RowAt.cell {w : World} {g : Nat} {L : List Nat} (h : RowAt w g L) (j : Nat) (hj : j < L.length) : w.cell? ⟨g, j, none⟩ = some (.int .u8 ((L.getD j 0 : Nat) : Int)) := by
  have := getElem?_cellsU8 L j hj
  simp [World.cell?, show w.heap[g]? = _ from h, this]
theorem RowAt.frozen {w : World} {g : Nat} {L : List Nat} (h : RowAt w g L) (j : Nat) : w.frozen? ⟨g, j, none⟩ = false := frozen_of_row w g j _ _ h
theorem RowAt.set {w : World} {g : Nat} {L : List Nat} (h : RowAt w g L) (i z : Nat) : RowAt (w.setCell ⟨g, i, none⟩ (.int .u8 (z : Int))) g (L.set i z) := by
  have := heap_setCell_same w g i _ _ (.int .u8 (z : Int)) h
  rw [set_cellsU8] at this
  exact this
theorem RowAt.lt {w : World} {g : Nat} {L : List Nat} (h : RowAt w g L) : g < w.heap.size := (Array.getElem?_eq_some_iff.1 h).1
theorem RowAt.other {w : World} {g : Nat} {L : List Nat} (h : RowAt w g L) {a : Addr} (v : Value) (hne : g ≠ a.block) : RowAt (w.setCell a v) g L := by
  unfold RowAt; rw [heap_setCell_other w a g v hne]; exact h
theorem RowAt.below {w w1 : World} {g B : Nat} {L : List Nat} (h : RowAt w g L) (hb : Below B w w1) (hg : g < B) : RowAt w1 g L := by
  unfold RowAt; rw [hb.block g hg]; exact h
theorem RowAt.bytes {w : World} {g : Nat} {L : List Nat} (h : RowAt w g L) (hz : ∀ z ∈ L, z < 256) (off n : Nat) (hn : off + n ≤ L.length) : BytesAt w (some ⟨g, off, none⟩) ((L.drop off).take n) := by
  refine ⟨fun z hz' => hz z (List.mem_of_mem_drop (List.mem_of_mem_take hz')), .inr ⟨g, off, rfl, fun j hj => ?_⟩⟩
  have hj' : j < n := by simp at hj; omega
  rw [h.cell (off + j) (by omega)]
  congr 3
  simp [List.getD_eq_getElem?_getD, hj']
theorem RowAt.bytes0 {w : World} {g : Nat} {L R : List Nat} (h : RowAt w g (L ++ R)) (hz : ∀ z ∈ L, z < 256) : BytesAt w (some ⟨g, 0, none⟩) L := by
  refine ⟨hz, .inr ⟨g, 0, rfl, fun j hj => ?_⟩⟩
  rw [h.cell (0 + j) (by simp; omega), Nat.zero_add, getD_left _ _ _ hj]

theorem rowAt_alloc (w : World) (L : List Nat) : RowAt (w.alloc (.cells (cellsU8 L) 5)) w.heap.size L := by
  show (w.heap.push _)[w.heap.size]? = _
  simp

theorem BytesAt.below {w w1 : World} {ao : Option Addr} {zs : List Nat} (h : BytesAt w ao zs) {B : Nat} (hb : Below B w w1) (hlt : ∀ a, zs ≠ [] → ao = some a → a.block < B) : BytesAt w1 ao zs := by
  obtain ⟨hz, rfl | ⟨b, off, rfl, hc⟩⟩ := h
  · exact ⟨hz, .inl rfl⟩
  · refine ⟨hz, .inr ⟨b, off, rfl, fun j hj => ?_⟩⟩
    have hne : zs ≠ [] := by intro e; rw [e] at hj; simp at hj
    rw [hb.cell (p := ⟨b, off + j, none⟩) (hlt ⟨b, off, none⟩ hne rfl)]
    exact hc j hj
/-- what is read lies among the blocks that are there -/
theorem BytesAt.lt {w : World} {ao : Option Addr} {zs : List Nat} (h : BytesAt w ao zs) : ∀ a, zs ≠ [] → ao = some a → a.block < w.heap.size := by
  intro a hne he
  obtain ⟨_, rfl | ⟨b, off, rfl, hc⟩⟩ := h
  · exact absurd rfl hne
  · cases he
    have h0 := hc 0 (by cases zs with | nil => exact absurd rfl hne | cons z zs => simp)
    by_cases hlt : b < w.heap.size
    · exact hlt
    · have hn : w.heap[b]? = none := by simp; omega
      simp [World.cell?, hn] at h0
theorem BytesAt.kept {w w1 : World} {ao : Option Addr} {zs : List Nat} (h : BytesAt w ao zs) (hb : Below w.heap.size w w1) : BytesAt w1 ao zs := h.below hb h.lt

theorem oneCells (L : List Nat) : ∀ v ∈ (L.map b8), v.oneCell' = true := by
  intro v hv
  obtain ⟨z, _, rfl⟩ := List.mem_map.1 hv
  rfl
theorem bytes_src {w : World} {ao : Option Addr} {zs : List Nat} (h : BytesAt w ao zs) (hne : zs ≠ []) : ∃ ad, ao = some ad ∧ ∀ j v, (zs.map b8)[j]? = some v → w.cell? (ad.add j) = some v := by
  obtain ⟨_, rfl | ⟨b, off, rfl, hc⟩⟩ := h
  · exact absurd rfl hne
  · refine ⟨_, rfl, fun j v hv => ?_⟩
    have hj : j < zs.length := by
      have := (List.getElem?_eq_some_iff.1 hv).1
      simpa using this
    have e : (⟨b, off, none⟩ : Addr).add j = ⟨b, off + j, none⟩ := by unfold Addr.add; split <;> simp_all
    rw [e, hc j hj]
    have : v = .int .u8 ((zs.getD j 0 : Nat) : Int) := by
      simp [List.getElem?_map, List.getElem?_eq_getElem hj] at hv
      rw [← hv]; simp [b8, List.getD_eq_getElem?_getD, List.getElem?_eq_getElem hj]
    rw [this]

theorem setRow_alloc (w : World) (c c' : Array Value) (t : TypeId) : (w.alloc (.cells c t)).setRow w.heap.size c' = w.alloc (.cells c' t) := by
  unfold World.setRow World.alloc
  congr 1
  apply Array.ext_getElem?
  intro k
  simp only [Array.getElem?_modify, Array.getElem?_push]
  by_cases hk : k = w.heap.size
  · subst hk; simp
  · simp [hk, Ne.symm hk]

/-- 'copy' into a row that has just been made. -/
theorem copy_made (w : World) (ao : Option Addr) (n N cap ty : Nat) (zs : List Nat) (hn : n = zs.length) (h : BytesAt w ao zs) (hN : zs.length ≤ N)
    (hu : Tryz.prog.underlying 71 = some (.slice 5)) (hsz : (Tryz.prog.info? 5).map (·.size) = some 1) :
    (Builtin.copy_ #[71, 71] ty #[.slice (some ⟨w.heap.size, 0, none⟩) N N, .slice ao n cap]).run Tryz.prog (w.alloc (.cells (madeCells #[.int .u8 0] N) 5)) =
      .ok (.int .i64 (n : Int)) (w.alloc (.cells (cellsU8 (zs ++ List.replicate (N - zs.length) 0)) 5)) := by
  subst hn
  rw [made_cellsU8]
  by_cases h0 : zs = []
  · subst h0
    have := run_copy_none (P := Tryz.prog) (w.alloc (.cells (cellsU8 (List.replicate N 0)) 5)) 71 71 ty 5 (some ⟨w.heap.size, 0, none⟩) ao N N 0 cap hu hsz (by simp)
    simpa [goInt] using this
  · obtain ⟨ad, rfl, hsrc⟩ := bytes_src h h0
    have hlt := h.lt ad h0 rfl
    have hrow : (w.alloc (.cells (cellsU8 (List.replicate N 0)) 5)).heap[w.heap.size]? = some (.cells (cellsU8 (List.replicate N 0)) 5 (0, 0)) := rowAt_alloc w _
    have := run_copy_row (P := Tryz.prog) (w.alloc (.cells (cellsU8 (List.replicate N 0)) 5)) 71 71 ty 5 w.heap.size 0 N N ad zs.length cap (cellsU8 (List.replicate N 0)) 5
      (zs.map b8) hu hsz hrow (by rw [List.length_map]; exact (Nat.min_eq_left hN).symm) (fun j v hv => by
        rw [← hsrc j v hv]
        have hb : (ad.add j).block = ad.block := by unfold Addr.add; split <;> simp_all
        exact World.cell?_alloc_lt w _ _ (by omega)) (by rw [size_cellsU8]; simpa using hN) (oneCells zs)
    rw [this, setRow_alloc]
    simp [goInt, cellsU8]

theorem info8 : (Tryz.prog.info? 5).map (fun i => (i.zero, i.size, i.bytes)) = some (some (.int .u8 0), 1, 1) := by kernel_rfl
theorem size8 : (Tryz.prog.info? 5).map (·.size) = some 1 := by kernel_rfl
theorem bytes8 : Tryz.prog.bytesOf 5 = 1 := by kernel_rfl
/-- make([]byte, n) -/
theorem make_bytes (c : Nat) (C : Int) (hC : C = c) (hc : c ≤ 281474976710656) (u : World) : (Instr.makeSlice 71 (.int .i64 C) (.int .i64 C)).run Tryz.prog u =
    .ok (.slice (some ⟨u.heap.size, 0, none⟩) c c) (u.alloc (.cells (madeCells #[.int .u8 0] c) 5)) := by
  obtain ⟨i0, hi, hz0, hz1, hz2⟩ := info_parts info8
  subst hC
  have h := run_make (P := Tryz.prog) u 71 5 i0 (.int .u8 0) Tryz.underlying71 hi hz0 .i64 .i64 (c : Int) (c : Int) (by omega) (Int.le_refl _) (by rw [hz2]; omega) (by omega)
  simpa [hz1, Value.cells] using h

end Go.Proofs.YtmkomfbjgmgemaaGreatDoor
/-
  THE LIBRARY's CONTRACTS OF strconv AT THIS DUMP: two tables of numbers and two theorems of closed facts, by program.
-/
namespace Go.Proofs.YtmkomfbjgmgemaaGreatDoor
open Go.Shelf
def laysM173_ren : Go.Shelf.Ren := ⟨fun | 173 => 30 | 246 => 58 | 283 => 74 | 284 => 75 | 285 => 76 | 286 => 77 | 129 => 85 | 317 => 84 | 318 => 86 | 319 => 87 | 320 => 88 | 337 => 94 | 338 => 95 | n => n, fun | 2 => 2 | 3 => 3 | 9 => 9 | 4 => 4 | 171 => 153 | 0 => 0 | 53 => 132 | 37 => 71 | 5 => 5 | 173 => 156 | 212 => 167 | 51 => 168 | 20 => 20 | 213 => 169 | 46 => 135 | 232 => 179 | 233 => 180 | n => n, fun | 17 => 5 | 18 => 6 | 19 => 7 | n => n⟩
theorem laysM173 : Go.Proofs.LaysM.n173 Tryz.prog laysM173_ren := {
  mixed := by kernel_rfl
  f129 := Tryz.func85.trans (congrArg some (by kernel_rfl))
  f173 := Tryz.func30.trans (congrArg some (by kernel_rfl))
  f246 := Tryz.func58.trans (congrArg some (by kernel_rfl))
  f283 := Tryz.func74.trans (congrArg some (by kernel_rfl))
  f284 := Tryz.func75.trans (congrArg some (by kernel_rfl))
  f285 := Tryz.func76.trans (congrArg some (by kernel_rfl))
  f286 := Tryz.func77.trans (congrArg some (by kernel_rfl))
  f317 := Tryz.func84.trans (congrArg some (by kernel_rfl))
  f318 := Tryz.func86.trans (congrArg some (by kernel_rfl))
  f319 := Tryz.func87.trans (congrArg some (by kernel_rfl))
  f320 := Tryz.func88.trans (congrArg some (by kernel_rfl))
  f337 := Tryz.func94.trans (congrArg some (by kernel_rfl))
  f338 := Tryz.func95.trans (congrArg some (by kernel_rfl))
  t0 := Tryz.underlying0
  a0 := Tryz.isAgg0
  z0 := Tryz.sizeOf0
  v0 := Tryz.zeroValue0
  t2 := Tryz.underlying2
  a2 := Tryz.isAgg2
  z2 := Tryz.sizeOf2
  v2 := Tryz.zeroValue2
  t3 := Tryz.underlying3
  a3 := Tryz.isAgg3
  z3 := Tryz.sizeOf3
  v3 := Tryz.zeroValue3
  t4 := Tryz.underlying4
  a4 := Tryz.isAgg4
  z4 := Tryz.sizeOf4
  v4 := Tryz.zeroValue4
  t5 := Tryz.underlying5
  a5 := Tryz.isAgg5
  z5 := Tryz.sizeOf5
  v5 := Tryz.zeroValue5
  t9 := Tryz.underlying9
  a9 := Tryz.isAgg9
  z9 := Tryz.sizeOf9
  v9 := Tryz.zeroValue9
  t20 := Tryz.underlying20
  a20 := Tryz.isAgg20
  z20 := Tryz.sizeOf20
  v20 := Tryz.zeroValue20
  t37 := Tryz.underlying71
  a37 := Tryz.isAgg71
  z37 := Tryz.sizeOf71
  v37 := Tryz.zeroValue71
  t46 := Tryz.underlying135
  a46 := Tryz.isAgg135
  z46 := Tryz.sizeOf135
  v46 := Tryz.zeroValue135
  t51 := Tryz.underlying168
  a51 := Tryz.isAgg168
  z51 := Tryz.sizeOf168
  v51 := Tryz.zeroValue168
  t53 := Tryz.underlying132
  a53 := Tryz.isAgg132
  z53 := Tryz.sizeOf132
  v53 := Tryz.zeroValue132
  t171 := Tryz.underlying153
  a171 := Tryz.isAgg153
  z171 := Tryz.sizeOf153
  v171 := Tryz.zeroValue153
  t173 := Tryz.underlying156
  a173 := Tryz.isAgg156
  z173 := Tryz.sizeOf156
  v173 := Tryz.zeroValue156
  t212 := Tryz.underlying167
  a212 := Tryz.isAgg167
  z212 := Tryz.sizeOf167
  v212 := Tryz.zeroValue167
  t213 := Tryz.underlying169
  a213 := Tryz.isAgg169
  z213 := Tryz.sizeOf169
  t232 := Tryz.underlying179
  a232 := Tryz.isAgg179
  z232 := Tryz.sizeOf179
  v232 := Tryz.zeroValue179
  t233 := Tryz.underlying180
  a233 := Tryz.isAgg180
  z233 := Tryz.sizeOf180
  v233 := Tryz.zeroValue180
  g17 := by kernel_rfl
  g18 := by kernel_rfl
  g19 := by kernel_rfl
  i0 := by kernel_rfl
  i2 := by kernel_rfl
  i3 := by kernel_rfl
  i4 := by kernel_rfl
  i5 := by kernel_rfl
  i9 := by kernel_rfl
  i20 := by kernel_rfl
  i37 := by kernel_rfl
  i46 := by kernel_rfl
  i51 := by kernel_rfl
  i53 := by kernel_rfl
  i171 := by kernel_rfl
  i173 := by kernel_rfl
  i212 := by kernel_rfl
  i232 := by kernel_rfl
  i233 := by kernel_rfl
  m17 := by kernel_rfl
  m18 := by kernel_rfl
  m19 := by kernel_rfl }
def laysC174_ren : Go.Shelf.Ren := ⟨fun | 174 => 17 | 247 => 28 | 245 => 29 | 287 => 53 | 279 => 54 | 280 => 55 | 281 => 56 | 282 => 57 | 321 => 70 | 322 => 71 | 316 => 69 | 171 => 73 | 205 => 72 | 243 => 83 | 246 => 58 | 283 => 74 | 284 => 75 | 285 => 76 | 286 => 77 | 129 => 85 | 317 => 84 | 318 => 86 | 319 => 87 | 320 => 88 | 337 => 94 | 338 => 95 | n => n, fun | 9 => 9 | 3 => 3 | 2 => 2 | 75 => 25 | 85 => 66 | 4 => 4 | 167 => 131 | 5 => 5 | 53 => 132 | 175 => 133 | 46 => 135 | 168 => 136 | 37 => 71 | 0 => 0 | 210 => 152 | 21 => 21 | 127 => 161 | 145 => 164 | 143 => 162 | 171 => 153 | 173 => 156 | 212 => 167 | 51 => 168 | 20 => 20 | 213 => 169 | 232 => 179 | 233 => 180 | 80 => 42 | n => n, fun | 15 => 3 | 16 => 4 | 17 => 5 | 18 => 6 | 19 => 7 | n => n⟩
theorem laysC174 : Go.Proofs.LaysC.n174 Tryz.prog laysC174_ren := {
  mixed := by kernel_rfl
  f129 := Tryz.func85.trans (congrArg some (by kernel_rfl))
  f171 := Tryz.func73.trans (congrArg some (by kernel_rfl))
  f174 := Tryz.func17.trans (congrArg some (by kernel_rfl))
  f205 := Tryz.func72.trans (congrArg some (by kernel_rfl))
  f243 := Tryz.func83.trans (congrArg some (by kernel_rfl))
  f245 := Tryz.func29.trans (congrArg some (by kernel_rfl))
  f246 := Tryz.func58.trans (congrArg some (by kernel_rfl))
  f247 := Tryz.func28.trans (congrArg some (by kernel_rfl))
  f279 := Tryz.func54.trans (congrArg some (by kernel_rfl))
  f280 := Tryz.func55.trans (congrArg some (by kernel_rfl))
  f281 := Tryz.func56.trans (congrArg some (by kernel_rfl))
  f282 := Tryz.func57.trans (congrArg some (by kernel_rfl))
  f283 := Tryz.func74.trans (congrArg some (by kernel_rfl))
  f284 := Tryz.func75.trans (congrArg some (by kernel_rfl))
  f285 := Tryz.func76.trans (congrArg some (by kernel_rfl))
  f286 := Tryz.func77.trans (congrArg some (by kernel_rfl))
  f287 := Tryz.func53.trans (congrArg some (by kernel_rfl))
  f316 := Tryz.func69.trans (congrArg some (by kernel_rfl))
  f317 := Tryz.func84.trans (congrArg some (by kernel_rfl))
  f318 := Tryz.func86.trans (congrArg some (by kernel_rfl))
  f319 := Tryz.func87.trans (congrArg some (by kernel_rfl))
  f320 := Tryz.func88.trans (congrArg some (by kernel_rfl))
  f321 := Tryz.func70.trans (congrArg some (by kernel_rfl))
  f322 := Tryz.func71.trans (congrArg some (by kernel_rfl))
  f337 := Tryz.func94.trans (congrArg some (by kernel_rfl))
  f338 := Tryz.func95.trans (congrArg some (by kernel_rfl))
  t0 := Tryz.underlying0
  a0 := Tryz.isAgg0
  z0 := Tryz.sizeOf0
  v0 := Tryz.zeroValue0
  t2 := Tryz.underlying2
  a2 := Tryz.isAgg2
  z2 := Tryz.sizeOf2
  v2 := Tryz.zeroValue2
  t3 := Tryz.underlying3
  a3 := Tryz.isAgg3
  z3 := Tryz.sizeOf3
  v3 := Tryz.zeroValue3
  t4 := Tryz.underlying4
  a4 := Tryz.isAgg4
  z4 := Tryz.sizeOf4
  v4 := Tryz.zeroValue4
  t5 := Tryz.underlying5
  a5 := Tryz.isAgg5
  z5 := Tryz.sizeOf5
  v5 := Tryz.zeroValue5
  t9 := Tryz.underlying9
  a9 := Tryz.isAgg9
  z9 := Tryz.sizeOf9
  v9 := Tryz.zeroValue9
  t20 := Tryz.underlying20
  a20 := Tryz.isAgg20
  z20 := Tryz.sizeOf20
  v20 := Tryz.zeroValue20
  t21 := Tryz.underlying21
  a21 := Tryz.isAgg21
  z21 := Tryz.sizeOf21
  v21 := Tryz.zeroValue21
  t37 := Tryz.underlying71
  a37 := Tryz.isAgg71
  z37 := Tryz.sizeOf71
  v37 := Tryz.zeroValue71
  t46 := Tryz.underlying135
  a46 := Tryz.isAgg135
  z46 := Tryz.sizeOf135
  v46 := Tryz.zeroValue135
  t51 := Tryz.underlying168
  a51 := Tryz.isAgg168
  z51 := Tryz.sizeOf168
  v51 := Tryz.zeroValue168
  t53 := Tryz.underlying132
  a53 := Tryz.isAgg132
  z53 := Tryz.sizeOf132
  v53 := Tryz.zeroValue132
  t75 := Tryz.underlying25
  a75 := Tryz.isAgg25
  z75 := Tryz.sizeOf25
  v75 := Tryz.zeroValue25
  t85 := Tryz.underlying66
  a85 := Tryz.isAgg66
  z85 := Tryz.sizeOf66
  v85 := Tryz.zeroValue66
  t127 := Tryz.underlying161
  a127 := Tryz.isAgg161
  z127 := Tryz.sizeOf161
  v127 := Tryz.zeroValue161
  t143 := Tryz.underlying162
  a143 := Tryz.isAgg162
  z143 := Tryz.sizeOf162
  v143 := Tryz.zeroValue162
  t145 := Tryz.underlying164
  a145 := Tryz.isAgg164
  z145 := Tryz.sizeOf164
  v145 := Tryz.zeroValue164
  t167 := Tryz.underlying131
  a167 := Tryz.isAgg131
  z167 := Tryz.sizeOf131
  v167 := Tryz.zeroValue131
  t168 := Tryz.underlying136
  a168 := Tryz.isAgg136
  z168 := Tryz.sizeOf136
  v168 := Tryz.zeroValue136
  t171 := Tryz.underlying153
  a171 := Tryz.isAgg153
  z171 := Tryz.sizeOf153
  v171 := Tryz.zeroValue153
  t173 := Tryz.underlying156
  a173 := Tryz.isAgg156
  z173 := Tryz.sizeOf156
  v173 := Tryz.zeroValue156
  t175 := Tryz.underlying133
  a175 := Tryz.isAgg133
  z175 := Tryz.sizeOf133
  v175 := Tryz.zeroValue133
  t210 := Tryz.underlying152
  a210 := Tryz.isAgg152
  z210 := Tryz.sizeOf152
  v210 := Tryz.zeroValue152
  t212 := Tryz.underlying167
  a212 := Tryz.isAgg167
  z212 := Tryz.sizeOf167
  v212 := Tryz.zeroValue167
  t213 := Tryz.underlying169
  a213 := Tryz.isAgg169
  z213 := Tryz.sizeOf169
  t232 := Tryz.underlying179
  a232 := Tryz.isAgg179
  z232 := Tryz.sizeOf179
  v232 := Tryz.zeroValue179
  t233 := Tryz.underlying180
  a233 := Tryz.isAgg180
  z233 := Tryz.sizeOf180
  v233 := Tryz.zeroValue180
  g15 := by kernel_rfl
  g16 := by kernel_rfl
  g17 := by kernel_rfl
  g18 := by kernel_rfl
  g19 := by kernel_rfl
  t80 := Tryz.underlying42
  a80 := Tryz.isAgg42
  z80 := Tryz.sizeOf42
  v80 := Tryz.zeroValue42
  i0 := by kernel_rfl
  i2 := by kernel_rfl
  i3 := by kernel_rfl
  i4 := by kernel_rfl
  i5 := by kernel_rfl
  i9 := by kernel_rfl
  i20 := by kernel_rfl
  i21 := by kernel_rfl
  i37 := by kernel_rfl
  i46 := by kernel_rfl
  i51 := by kernel_rfl
  i53 := by kernel_rfl
  i75 := by kernel_rfl
  i80 := by kernel_rfl
  i85 := by kernel_rfl
  i127 := by kernel_rfl
  i143 := by kernel_rfl
  i145 := by kernel_rfl
  i167 := by kernel_rfl
  i168 := by kernel_rfl
  i171 := by kernel_rfl
  i173 := by kernel_rfl
  i175 := by kernel_rfl
  i210 := by kernel_rfl
  i212 := by kernel_rfl
  i232 := by kernel_rfl
  i233 := by kernel_rfl
  m15 := by kernel_rfl
  m16 := by kernel_rfl
  m17 := by kernel_rfl
  m18 := by kernel_rfl
  m19 := by kernel_rfl
  c0 := by kernel_rfl
  c2 := by kernel_rfl
  c3 := by kernel_rfl
  c4 := by kernel_rfl
  c5 := by kernel_rfl
  c9 := by kernel_rfl
  c20 := by kernel_rfl
  c21 := by kernel_rfl
  c37 := by kernel_rfl
  c46 := by kernel_rfl
  c51 := by kernel_rfl
  c53 := by kernel_rfl
  c75 := by kernel_rfl
  c80 := by kernel_rfl
  c85 := by kernel_rfl
  c127 := by kernel_rfl
  c143 := by kernel_rfl
  c145 := by kernel_rfl
  c167 := by kernel_rfl
  c168 := by kernel_rfl
  c171 := by kernel_rfl
  c173 := by kernel_rfl
  c175 := by kernel_rfl
  c210 := by kernel_rfl
  c212 := by kernel_rfl
  c213 := by kernel_rfl
  c232 := by kernel_rfl
  c233 := by kernel_rfl }
end Go.Proofs.YtmkomfbjgmgemaaGreatDoor
/-
  THE LIBRARY's TABLE OF POWERS OF TEN; codec.Digits.
-/
namespace Go.Proofs.YtmkomfbjgmgemaaGreatDoor
open Go.RowKit Go.Shelf

theorem byteList (s : ByteArray) : s.toList = s.data.toList := ByteArray.toList_eq s
/-- what the library's table holds -/
def DigVars (w : World) : Prop := Lib.TabIs Tryz.prog w "internal/strconv.uint64pow10" .u64 Lib.pow10Tab
theorem var_lt {P : Program} {w : World} {n : String} {cs : Array Value} {g : Nat} (hg : P.globalNamed n = some g) (h : w.var? P n = some cs) : g < w.heap.size := by
  unfold World.var? at h
  rw [hg, Option.bind_some] at h
  by_cases hlt : g < w.heap.size
  · exact hlt
  · have hn : w.heap[g]? = none := Array.getElem?_eq_none_iff.2 (by omega)
    rw [hn] at h; cases h
theorem var_kept {w w1 : World} {n : String} {cs : Array Value} {g : Nat} (hg : Tryz.prog.globalNamed n = some g) (h : w.var? Tryz.prog n = some cs) (hb : Below w.heap.size w w1) : w1.var? Tryz.prog n = some cs :=
  var?_below hb hg (var_lt hg h) h
theorem gPow : Tryz.prog.globalNamed "internal/strconv.uint64pow10" = some 5 := by kernel_rfl
theorem DigVars.kept {w w1 : World} (h : DigVars w) (hb : Below w.heap.size w w1) : DigVars w1 := var_kept gPow h hb

theorem grow_below (w : World) (k : Nat) (os : Array Obj) : Below w.heap.size w (Sort.grow (w.drewN k) os) :=
  ⟨rfl, rfl, rfl, by simp [Sort.grow], fun i hi => by simp [Sort.grow]; rw [Array.getElem?_append_left hi]⟩

theorem formatInt_any (w : World) (n : Int) (h0 : -9223372036854775808 ≤ n) (h1 : n ≤ 9223372036854775807) (hv : DigVars w) :
    Calls Tryz.prog 30 #[.int .i64 n, .int .i64 10] w fun e w' => e = .returned (.string ⟨(Lib.itoa n).toArray⟩) ∧ Below w.heap.size w w' := by
  refine (show Calls Tryz.prog 30 #[.int .i64 n, .int .i64 10] w _ from Any.strconv_FormatInt_10 laysM173 n h0 h1 w hv).mono ?_
  rintro e w' ⟨rfl, k, os, rfl⟩
  exact ⟨rfl, grow_below w k os⟩

end Go.Proofs.YtmkomfbjgmgemaaGreatDoor
