import Derived.Test.YtbcmmeajglilbaaGreatRows
import Derived.Test.YtbcmmeajglilbaaGreatCrc
import Derived.WalkKit
import Derived.WalkLawsBesides
import Derived.ProofKit
import Derived.OpenShut
import Derived.BigQuiet
import Derived.Laws.BitsAllLaws
import Derived.Laws.CopyOwn
import Derived.WalkSmall
import Derived.Laws.AppendOwnNone
import Derived.Maps.AppendAt
import Derived.Test.YtbcmmeajglilbaaGreatKKMath
import Derived.Test.YtbcmmeajglilbaaGreatKCTake2
/-
  BYTES IN MEMORY: what a slice of bytes holds; the table of the check sum; small laws.
-/
namespace Go.Proofs.YtbcmmeajglilbaaGreat
open Go.RowKit

/-- A SLICE OF BYTES: the address and what its cells hold. -/
def BytesAt (w : World) (ao : Option Addr) (zs : List Nat) : Prop :=
  (∀ z ∈ zs, z < 256) ∧ (zs = [] ∨ ∃ b off, ao = some ⟨b, off, none⟩ ∧ ∀ j, j < zs.length → w.cell? ⟨b, off + j, none⟩ = some (.int .u8 ((zs.getD j 0 : Nat) : Int)))

theorem getD_lt {zs : List Nat} (h : ∀ z ∈ zs, z < 256) (j : Nat) : zs.getD j 0 < 256 := by
  rw [List.getD_eq_getElem?_getD]
  cases e : zs[j]? with
  | none => simp
  | some z => simpa using h z (List.mem_of_getElem? e)
theorem take_lt {zs : List Nat} (h : ∀ z ∈ zs, z < 256) (k : Nat) : ∀ z ∈ zs.take k, z < 256 := fun z hz => h z (List.mem_of_mem_take hz)
theorem take_snoc (zs : List Nat) (k : Nat) (h : k < zs.length) : zs.take (k + 1) = zs.take k ++ [zs.getD k 0] := by
  rw [List.take_succ_eq_append_getElem h, List.getD_eq_getElem?_getD, List.getElem?_eq_getElem h]; rfl

theorem getD_left (xs ys : List Nat) (j : Nat) (h : j < xs.length) : (xs ++ ys).getD j 0 = xs.getD j 0 := by
  rw [List.getD_eq_getElem?_getD, List.getD_eq_getElem?_getD, List.getElem?_append_left h]
theorem getD_right (xs ys : List Nat) (j : Nat) (h : xs.length ≤ j) : (xs ++ ys).getD j 0 = ys.getD (j - xs.length) 0 := by
  rw [List.getD_eq_getElem?_getD, List.getD_eq_getElem?_getD, List.getElem?_append_right h]
theorem BytesAt.drewN {w : World} {ao : Option Addr} {zs : List Nat} (h : BytesAt w ao zs) (n : Nat) : BytesAt (w.drewN n) ao zs := h

end Go.Proofs.YtbcmmeajglilbaaGreat
/-
  ROWS OF BYTES THAT A CALL HAS MADE; make, copy.
-/
namespace Go.Proofs.YtbcmmeajglilbaaGreat
open Go.RowKit

/-- a byte as a value -/
def b8 (z : Nat) : Value := .int .u8 (z : Int)
def cellsU8 (L : List Nat) : Array Value := (L.map b8).toArray
theorem size_cellsU8 (L : List Nat) : (cellsU8 L).size = L.length := by simp [cellsU8]
theorem getElem?_cellsU8 (L : List Nat) (j : Nat) (h : j < L.length) : (cellsU8 L)[j]? = some (.int .u8 ((L.getD j 0 : Nat) : Int)) := by
  simp [cellsU8, b8, List.getD_eq_getElem?_getD, List.getElem?_eq_getElem h]
theorem set_cellsU8 (L : List Nat) (i z : Nat) : (cellsU8 L).setIfInBounds i (.int .u8 (z : Int)) = cellsU8 (L.set i z) := by
  apply Array.ext'
  simp [cellsU8, b8, List.map_set]
theorem made_cellsU8 (n : Nat) : madeCells #[.int .u8 0] n = cellsU8 (List.replicate n 0) := by
  apply Array.ext'
  rw [toList_madeCells_one]
  simp [cellsU8, b8]

/-- BLOCK g IS A ROW OF BYTES, L, of the call's own. -/
def RowAt (w : World) (g : Nat) (L : List Nat) : Prop := w.heap[g]? = some (.cells (cellsU8 L) 5 (0, 0))

theorem RowAt.cell {w : World} {g : Nat} {L : List Nat} (h : RowAt w g L) (j : Nat) (hj : j < L.length) : w.cell? ⟨g, j, none⟩ = some (.int .u8 ((L.getD j 0 : Nat) : Int)) := by
  have := getElem?_cellsU8 L j hj
  simp [World.cell?, show w.heap[g]? = _ from h, this]
theorem RowAt.frozen {w : World} {g : Nat} {L : List Nat} (h : RowAt w g L) (j : Nat) : w.frozen? ⟨g, j, none⟩ = false := frozen_of_row w g j _ _ h
theorem RowAt.set {w : World} {g : Nat} {L : List Nat} (h : RowAt w g L) (i z : Nat) : RowAt (w.setCell ⟨g, i, none⟩ (.int .u8 (z : Int))) g (L.set i z) := by
  have := heap_setCell_same w g i _ _ (.int .u8 (z : Int)) h
  rw [set_cellsU8] at this
  exact this
theorem RowAt.lt {w : World} {g : Nat} {L : List Nat} (h : RowAt w g L) : g < w.heap.size := (Array.getElem?_eq_some_iff.1 h).1
theorem RowAt.other {w : World} {g : Nat} {L : List Nat} (h : RowAt w g L) {a : Addr} (v : Value) (hne : g ≠ a.block) : RowAt (w.setCell a v) g L := by
  unfold RowAt; rw [heap_setCell_other w a g v hne]; exact h
theorem RowAt.below {w w1 : World} {g B : Nat} {L : List Nat} (h : RowAt w g L) (hb : Below B w w1) (hg : g < B) : RowAt w1 g L := by
  unfold RowAt; rw [hb.block g hg]; exact h
theorem RowAt.bytes {w : World} {g : Nat} {L : List Nat} (h : RowAt w g L) (hz : ∀ z ∈ L, z < 256) (off n : Nat) (hn : off + n ≤ L.length) : BytesAt w (some ⟨g, off, none⟩) ((L.drop off).take n) := by
  refine ⟨fun z hz' => hz z (List.mem_of_mem_drop (List.mem_of_mem_take hz')), .inr ⟨g, off, rfl, fun j hj => ?_⟩⟩
  have hj' : j < n := by simp at hj; omega
  rw [h.cell (off + j) (by omega)]
  congr 3
  simp [List.getD_eq_getElem?_getD, hj']
theorem RowAt.bytes0 {w : World} {g : Nat} {L R : List Nat} (h : RowAt w g (L ++ R)) (hz : ∀ z ∈ L, z < 256) : BytesAt w (some ⟨g, 0, none⟩) L := by
  refine ⟨hz, .inr ⟨g, 0, rfl, fun j hj => ?_⟩⟩
  rw [h.cell (0 + j) (by simp; omega), Nat.zero_add, getD_left _ _ _ hj]

theorem rowAt_alloc (w : World) (L : List Nat) : RowAt (w.alloc (.cells (cellsU8 L) 5)) w.heap.size L := by
  show (w.heap.push _)[w.heap.size]? = _
  simp

theorem BytesAt.below {w w1 : World} {ao : Option Addr} {zs : List Nat} (h : BytesAt w ao zs) {B : Nat} (hb : Below B w w1) (hlt : ∀ a, zs ≠ [] → ao = some a → a.block < B) : BytesAt w1 ao zs := by
  obtain ⟨hz, rfl | ⟨b, off, rfl, hc⟩⟩ := h
  · exact ⟨hz, .inl rfl⟩
  · refine ⟨hz, .inr ⟨b, off, rfl, fun j hj => ?_⟩⟩
    have hne : zs ≠ [] := by intro e; rw [e] at hj; simp at hj
    rw [hb.cell (p := ⟨b, off + j, none⟩) (hlt ⟨b, off, none⟩ hne rfl)]
    exact hc j hj
/-- what is read lies among the blocks that are there -/
theorem BytesAt.lt {w : World} {ao : Option Addr} {zs : List Nat} (h : BytesAt w ao zs) : ∀ a, zs ≠ [] → ao = some a → a.block < w.heap.size := by
  intro a hne he
  obtain ⟨_, rfl | ⟨b, off, rfl, hc⟩⟩ := h
  · exact absurd rfl hne
  · cases he
    have h0 := hc 0 (by cases zs with | nil => exact absurd rfl hne | cons z zs => simp)
    by_cases hlt : b < w.heap.size
    · exact hlt
    · have hn : w.heap[b]? = none := by simp; omega
      simp [World.cell?, hn] at h0
theorem BytesAt.kept {w w1 : World} {ao : Option Addr} {zs : List Nat} (h : BytesAt w ao zs) (hb : Below w.heap.size w w1) : BytesAt w1 ao zs := h.below hb h.lt

theorem oneCells (L : List Nat) : ∀ v ∈ (L.map b8), v.oneCell' = true := by
  intro v hv
  obtain ⟨z, _, rfl⟩ := List.mem_map.1 hv
  rfl
theorem bytes_src {w : World} {ao : Option Addr} {zs : List Nat} (h : BytesAt w ao zs) (hne : zs ≠ []) : ∃ ad, ao = some ad ∧ ∀ j v, (zs.map b8)[j]? = some v → w.cell? (ad.add j) = some v := by
  obtain ⟨_, rfl | ⟨b, off, rfl, hc⟩⟩ := h
  · exact absurd rfl hne
  · refine ⟨_, rfl, fun j v hv => ?_⟩
    have hj : j < zs.length := by
      have := (List.getElem?_eq_some_iff.1 hv).1
      simpa using this
    have e : (⟨b, off, none⟩ : Addr).add j = ⟨b, off + j, none⟩ := by unfold Addr.add; split <;> simp_all
    rw [e, hc j hj]
    have : v = .int .u8 ((zs.getD j 0 : Nat) : Int) := by
      simp [List.getElem?_map, List.getElem?_eq_getElem hj] at hv
      rw [← hv]; simp [b8, List.getD_eq_getElem?_getD, List.getElem?_eq_getElem hj]
    rw [this]

theorem setRow_alloc (w : World) (c c' : Array Value) (t : TypeId) : (w.alloc (.cells c t)).setRow w.heap.size c' = w.alloc (.cells c' t) := by
  unfold World.setRow World.alloc
  congr 1
  apply Array.ext_getElem?
  intro k
  simp only [Array.getElem?_modify, Array.getElem?_push]
  by_cases hk : k = w.heap.size
  · subst hk; simp
  · simp [hk, Ne.symm hk]

theorem info8 : (Tryz.prog.info? 5).map (fun i => (i.zero, i.size, i.bytes)) = some (some (.int .u8 0), 1, 1) := by kernel_rfl
theorem size8 : (Tryz.prog.info? 5).map (·.size) = some 1 := by kernel_rfl
theorem bytes8 : Tryz.prog.bytesOf 5 = 1 := by kernel_rfl

end Go.Proofs.YtbcmmeajglilbaaGreat
/-
  A SLICE OF BYTES THAT IS THE CALL's OWN; append.
-/
namespace Go.Proofs.YtbcmmeajglilbaaGreat
open Go.RowKit

/-- v is nil and L is empty; or v lies at the head of a row of the call's own (from block 'base' on), whose first bytes are L. -/
def OwnB (w : World) (base : Nat) (v : Value) (L : List Nat) : Prop := (∀ z ∈ L, z < 256) ∧ w.ownsRow base 5 1 v L.length (L.map b8)

theorem OwnB.nil (w : World) (base : Nat) : OwnB w base (.slice none 0 0) [] := ⟨by simp, World.ownsRow_nil _ _ _ _⟩
theorem OwnB.shape {w : World} {base : Nat} {v : Value} {L : List Nat} (h : OwnB w base v L) :
    (v = .slice none 0 0 ∧ L = []) ∨ ∃ g cap, v = .slice (some ⟨g, 0, none⟩) L.length cap ∧ base ≤ g ∧ g < w.heap.size ∧ L.length ≤ cap ∧ cap ≤ maxLen ∧ BytesAt w (some ⟨g, 0, none⟩) L := by
  obtain ⟨hz, hl, h⟩ := h
  rcases h with ⟨rfl, h0⟩ | ⟨g, cap, cur, rfl, hb, hg, hn, hm, hs, ht⟩
  · exact .inl ⟨rfl, List.eq_nil_of_length_eq_zero h0⟩
  · refine .inr ⟨g, cap, rfl, hb, (Array.getElem?_eq_some_iff.1 hg).1, hn, hm, hz, .inr ⟨g, 0, rfl, fun j hj => ?_⟩⟩
    have e := World.ownsRow.cellAt (w := w) (base := base) (e := 5) (size := 1) (g := g) (cap := cap) ⟨hl, .inr ⟨g, cap, cur, rfl, hb, hg, hn, hm, hs, ht⟩⟩ j (by omega)
    rw [Nat.zero_add, e]
    simp [b8, List.getD_eq_getElem?_getD, List.getElem?_eq_getElem hj]
/-- as a slice, in any case -/
theorem OwnB.slice {w : World} {base : Nat} {v : Value} {L : List Nat} (h : OwnB w base v L) : ∃ ao cap, v = .slice ao L.length cap ∧ BytesAt w ao L ∧ (ao = none → cap = 0) ∧ L.length ≤ cap := by
  rcases h.shape with ⟨rfl, rfl⟩ | ⟨g, cap, rfl, _, _, hc, _, hb⟩
  · exact ⟨none, 0, rfl, ⟨by simp, .inl rfl⟩, fun _ => rfl, by simp⟩
  · exact ⟨_, cap, rfl, hb, by simp, hc⟩
theorem OwnB.alloc {w : World} {base : Nat} {v : Value} {L : List Nat} (h : OwnB w base v L) (o : Obj) : OwnB (w.alloc o) base v L := ⟨h.1, h.2.alloc o⟩
theorem OwnB.drewN {w : World} {base : Nat} {v : Value} {L : List Nat} (h : OwnB w base v L) (n : Nat) : OwnB (w.drewN n) base v L := h
theorem OwnB.mono {w : World} {base base' : Nat} {v : Value} {L : List Nat} (h : OwnB w base v L) (hb : base' ≤ base) : OwnB w base' v L := by
  obtain ⟨hz, hl, h⟩ := h
  refine ⟨hz, hl, ?_⟩
  rcases h with h | ⟨g, cap, cur, e, hg, r⟩
  · exact .inl h
  · exact .inr ⟨g, cap, cur, e, by omega, r⟩
/-- what lies below a number stays -/
theorem OwnB.below {w w1 : World} {base B : Nat} {v : Value} {L : List Nat} (h : OwnB w base v L) (hb : Below B w w1) (hlt : ∀ g, v.ownBlock = some g → g < B) : OwnB w1 base v L := by
  obtain ⟨hz, hl, h⟩ := h
  refine ⟨hz, hl, ?_⟩
  rcases h with h | ⟨g, cap, cur, rfl, hg, hh, r⟩
  · exact .inl h
  · refine .inr ⟨g, cap, cur, rfl, hg, ?_, r⟩
    rw [hb.block g (hlt g rfl)]; exact hh
theorem OwnB.kept {w w1 : World} {base : Nat} {v : Value} {L : List Nat} (h : OwnB w base v L) (hb : Below w.heap.size w w1) : OwnB w1 base v L :=
  h.below hb fun g hg => (h.2.lt g hg).2
theorem OwnB.grown {w w1 : World} {base : Nat} {v : Value} {L : List Nat} {row : Option Nat} (h : OwnB w base v L) (hg : w.grownBy w1 row) (hne : v.ownBlock = none ∨ v.ownBlock ≠ row) : OwnB w1 base v L := ⟨h.1, h.2.kept hg hne⟩
theorem OwnB.made {w : World} {L : List Nat} (hz : ∀ z ∈ L, z < 256) (hm : L.length ≤ maxLen) {base : Nat} (hb : base ≤ w.heap.size) : OwnB (w.alloc (.cells (cellsU8 L) 5)) base (.slice (some ⟨w.heap.size, 0, none⟩) L.length L.length) L := by
  refine ⟨hz, by simp, .inr ⟨w.heap.size, L.length, cellsU8 L, rfl, hb, rowAt_alloc w L, Nat.le_refl _, hm, by simp [size_cellsU8], ?_⟩⟩
  simp only [cellsU8, Nat.mul_one]
  rw [List.take_of_length_le (by simp)]
theorem OwnB.ofRow {w : World} {g : Nat} {L : List Nat} (h : RowAt w g L) (hz : ∀ z ∈ L, z < 256) (hm : L.length ≤ maxLen) {base : Nat} (hb : base ≤ g) : OwnB w base (.slice (some ⟨g, 0, none⟩) L.length L.length) L := by
  refine ⟨hz, by simp, .inr ⟨g, L.length, cellsU8 L, rfl, hb, h, Nat.le_refl _, hm, by simp [size_cellsU8], ?_⟩⟩
  simp only [cellsU8, Nat.mul_one]
  rw [List.take_of_length_le (by simp)]
theorem ownBlock_lt {w : World} {base : Nat} {v : Value} {L : List Nat} (h : OwnB w base v L) : ∀ k, v.ownBlock = some k → base ≤ k := fun k hk => (h.2.lt k hk).1

theorem OwnB.frozen {w : World} {base g n cap : Nat} {L : List Nat} (h : OwnB w base (.slice (some ⟨g, 0, none⟩) n cap) L) (j : Nat) : w.frozen? ⟨g, j, none⟩ = false := by
  obtain ⟨hz, hl, h0 | ⟨g', cap', cur, e, hb, hg, r⟩⟩ := h
  · cases h0.1
  · cases e; exact frozen_of_row w g j _ _ hg
theorem OwnB.cell {w : World} {base g n cap : Nat} {L : List Nat} (h : OwnB w base (.slice (some ⟨g, 0, none⟩) n cap) L) (j : Nat) (hj : j < L.length) : w.cell? ⟨g, j, none⟩ = some (.int .u8 ((L.getD j 0 : Nat) : Int)) := by
  rcases h.shape with ⟨h, _⟩ | ⟨g', cap', h, _, _, _, _, hb⟩
  · cases h
  · simp only [Value.slice.injEq, Option.some.injEq, Addr.mk.injEq] at h
    obtain ⟨⟨rfl, _⟩, _⟩ := h
    obtain ⟨_, h1 | ⟨b', o', e, hcc⟩⟩ := hb
    · rw [h1] at hj; simp at hj
    · simp only [Option.some.injEq, Addr.mk.injEq] at e
      obtain ⟨rfl, rfl, _⟩ := e
      have := hcc j hj
      rwa [Nat.zero_add] at this
theorem OwnB.bytes {w : World} {base n cap : Nat} {ao : Option Addr} {L : List Nat} (h : OwnB w base (.slice ao n cap) L) : BytesAt w ao L ∧ n = L.length := by
  obtain ⟨ao', cap', e, hb, _⟩ := h.slice
  simp only [Value.slice.injEq] at e
  obtain ⟨rfl, rfl, _⟩ := e
  exact ⟨hb, rfl⟩
theorem OwnB.set {w : World} {base g n cap : Nat} {L : List Nat} (h : OwnB w base (.slice (some ⟨g, 0, none⟩) n cap) L) (p z : Nat) (hz : z < 256) : OwnB (w.setCell ⟨g, p, none⟩ (.int .u8 (z : Int))) base (.slice (some ⟨g, 0, none⟩) n cap) (L.set p z) := by
  have hn : n = L.length := by
    obtain ⟨_, _, h0 | ⟨g', cap', cur, e, r⟩⟩ := h
    · cases h0.1
    · cases e; rfl
  subst hn
  have hs := h.2.stored p (.int .u8 (z : Int))
  refine ⟨?_, ?_⟩
  · intro y hy
    rcases List.mem_or_eq_of_mem_set hy with h1 | h1
    · exact h.1 y h1
    · omega
  · rw [List.length_set, List.map_set]
    exact hs.1

/-- one byte, laid for an append -/
theorem byte_src (w : World) (B z : Nat) (hB : B = w.heap.size) (hz : z < 256) : BytesAt (w.alloc (.cells #[.int .u8 (z : Int)] 5)) (some ⟨B, 0, none⟩) [z] := by
  subst hB
  have h := rowAt_alloc w [z]
  rw [show cellsU8 [z] = #[.int .u8 (z : Int)] from rfl, ← List.append_nil [z]] at h
  exact h.bytes0 (by simpa using hz)

end Go.Proofs.YtbcmmeajglilbaaGreat
/-
  THE WALK OF spell.
-/
namespace Go.Proofs.YtbcmmeajglilbaaGreat
open Go.RowKit Go.Sort

theorem list10 {L : List Nat} (h : L.length = 10) : ∃ a b c d e f g i j k, L = [a, b, c, d, e, f, g, i, j, k] := by
  match L, h with
  | [a, b, c, d, e, f, g, i, j, k], _ => exact ⟨a, b, c, d, e, f, g, i, j, k, rfl⟩
theorem setCell_alloc (w : World) (c : Array Value) (t : TypeId) (g i : Nat) (v : Value) (hg : g = w.heap.size) : (w.alloc (.cells c t)).setCell ⟨g, i, none⟩ v = w.alloc (.cells (c.setIfInBounds i v) t) := by
  subst hg
  have h := heap_setCell_same (w.alloc (.cells c t)) w.heap.size i c t v (heap_alloc_new _ _ rfl)
  have ho := fun k hk => heap_setCell_other (w.alloc (.cells c t)) ⟨w.heap.size, i, none⟩ k v hk
  have hs : ((w.alloc (.cells c t)).setCell ⟨w.heap.size, i, none⟩ v).heap = (w.alloc (.cells (c.setIfInBounds i v) t)).heap := by
    apply Array.ext_getElem?
    intro k
    by_cases hk : k = w.heap.size
    · subst hk; rw [h, heap_alloc_new _ _ rfl]
    · rw [ho k hk]
      by_cases hlt : k < w.heap.size
      · rw [heap_alloc_old _ _ hlt, heap_alloc_old _ _ hlt]
      · rw [Array.getElem?_eq_none_iff.2 (by simp; omega), Array.getElem?_eq_none_iff.2 (by simp; omega)]
  unfold World.alloc at hs ⊢
  unfold World.setCell at hs ⊢
  simp only at hs ⊢
  rw [hs]

theorem xor_row (r : Int) (hr : In64 r) : bits .xor .u64 (IntKind.u64.wrap r) 9223372036854775808 = ((turn r : Nat) : Int) := by
  obtain ⟨h1, h2⟩ := hr
  obtain ⟨x, hx, hl⟩ : ∃ x : Nat, IntKind.u64.wrap r = (x : Int) ∧ x < 18446744073709551616 := ⟨(r % 18446744073709551616).toNat, by rw [IntKind.wrap_u64]; omega, by omega⟩
  have h := u64_xor_nat x 9223372036854775808 hl (by omega)
  have hx' := hx
  rw [IntKind.wrap_u64] at hx'
  rw [hx, show (9223372036854775808 : Int) = ((9223372036854775808 : Nat) : Int) from rfl, h, xor_top x hl]
  unfold turn
  omega
theorem row_cell {w : World} {g : Nat} {L : List Nat} {t : TypeId} (h : w.heap[g]? = some (.cells (cellsU8 L) t (0, 0))) (j : Nat) (hj : j < L.length) : w.cell? ⟨g, j, none⟩ = some (.int .u8 ((L.getD j 0 : Nat) : Int)) := by
  have := getElem?_cellsU8 L j hj
  simp [World.cell?, h, this]
theorem set_row (a b m z : Nat) (M : List Nat) : ([a, b] ++ List.replicate (m + 1) 0 ++ M).set (m + 2) z = [a, b] ++ List.replicate m 0 ++ z :: M := by
  rw [List.replicate_succ', List.append_assoc, List.append_assoc, ← List.append_assoc [a, b], List.set_append_right _ _ (by simp)]
  simp
theorem row_start (t : Nat) : (#[.int .u8 ((t : Int) / 256), .int .u8 ((t : Int) % 256), .int .u8 0, .int .u8 0, .int .u8 0, .int .u8 0, .int .u8 0, .int .u8 0, .int .u8 0, .int .u8 0] : Array Value) = cellsU8 ([t / 256, t % 256] ++ List.replicate 8 0 ++ []) := by
  simp [cellsU8, b8, List.replicate_succ]
theorem cells10 (a b c d e f g i j k : Nat) : cellsU8 [a, b, c, d, e, f, g, i, j, k] = #[.int .u8 (a : Int), .int .u8 (b : Int), .int .u8 (c : Int), .int .u8 (d : Int), .int .u8 (e : Int), .int .u8 (f : Int), .int .u8 (g : Int), .int .u8 (i : Int), .int .u8 (j : Int), .int .u8 (k : Int)] := rfl

set_option maxHeartbeats 1000000 in
theorem spell_any (w : World) (t : Nat) (r : Int) (ht : t ≤ 65535) (hr : In64 r) :
    Calls Tryz.prog 44 #[.agg #[.int .i64 (t : Int), .int .i64 r]] w fun e w' => e = .returned (.agg (cellsU8 (keyBytes ((t : Int), r)))) ∧ ∃ q os, w' = grow (w.drewN q) os := by
  have hx := xor_row r hr
  have hu := turn_lt hr
  have HK : Hid (keyBytes ((t : Int), r) = [t / 256, t % 256] ++ be 8 (turn r)) := by rw [Hid]; simp [keyBytes]
  generalize keyBytes ((t : Int), r) = KB at *
  generalize turn r = u at *
  obtain ⟨h1, h2⟩ := hr
  go_enter Tryz.func44, Tryz.ntmps44
  go_wp2
  rw [row_start]
  have HS : Hid (w.heap.size + 1 + 1 = ((w.alloc (Obj.cells #[Value.int IntKind.i64 (t : Int), Value.int IntKind.i64 r] 41)).alloc (Obj.cells #[.int .u8 0, .int .u8 0, .int .u8 0, .int .u8 0, .int .u8 0, .int .u8 0, .int .u8 0, .int .u8 0, .int .u8 0, .int .u8 0] 96)).heap.size) := by rw [Hid]; simp
  have HG : Hid (Grew w ((w.alloc (Obj.cells #[Value.int IntKind.i64 (t : Int), Value.int IntKind.i64 r] 41)).alloc (Obj.cells #[.int .u8 0, .int .u8 0, .int .u8 0, .int .u8 0, .int .u8 0, .int .u8 0, .int .u8 0, .int .u8 0, .int .u8 0, .int .u8 0] 96))) := ((Grew.refl _).alloc _).alloc _
  have H0 : Hid (((w.alloc (Obj.cells #[Value.int IntKind.i64 (t : Int), Value.int IntKind.i64 r] 41)).alloc (Obj.cells #[.int .u8 0, .int .u8 0, .int .u8 0, .int .u8 0, .int .u8 0, .int .u8 0, .int .u8 0, .int .u8 0, .int .u8 0, .int .u8 0] 96)) = (w.alloc (Obj.cells #[Value.int IntKind.i64 (t : Int), Value.int IntKind.i64 r] 41)).alloc (Obj.cells #[.int .u8 0, .int .u8 0, .int .u8 0, .int .u8 0, .int .u8 0, .int .u8 0, .int .u8 0, .int .u8 0, .int .u8 0, .int .u8 0] 96)) := rfl
  generalize hW : (w.alloc (Obj.cells #[Value.int IntKind.i64 (t : Int), Value.int IntKind.i64 r] 41)).alloc (Obj.cells #[.int .u8 0, .int .u8 0, .int .u8 0, .int .u8 0, .int .u8 0, .int .u8 0, .int .u8 0, .int .u8 0, .int .u8 0, .int .u8 0] 96) = W at *
  have HW : Hid _ := hW
  clear hW H0
  go_loopw [4, 5] (fun x y wr => ∃ n m : Nat, n + m = 8 ∧ x = .int .u64 ((u / 256 ^ n : Nat) : Int) ∧ y = .int .i64 ((m : Int) + 1) ∧ Hid (wr = W.alloc (.cells (cellsU8 ([t / 256, t % 256] ++ List.replicate m 0 ++ be n u)) 96))) (fun _ y _ => (intOf y).toNat)
  case atStart => exact ⟨0, 8, rfl, by simp, rfl, rfl⟩
  case round =>
    obtain ⟨n, m, hnm, rfl, rfl, hwr⟩ := hrel
    have hq : u / 256 ^ n < 18446744073709551616 := Nat.lt_of_le_of_lt (Nat.div_le_self _ _) hu
    have HQ : Hid (u / 256 ^ n / 256 = u / 256 ^ (n + 1)) := by rw [Hid, Nat.div_div_eq_div_mul, ← Nat.pow_succ]
    have HB : Hid (be (n + 1) u = (u / 256 ^ n % 256) :: be n u) := be_cons n u
    cases m with
    | zero =>
      obtain rfl : n = 8 := by omega
      have hlen : KB.length = 10 := by rw [HK.out]; simp [be_length]
      have e := hwr.out
      rw [List.replicate_zero, List.append_nil, ← HK.out] at e
      obtain ⟨a, b, c, d, f, g, i, j, k, l, rfl⟩ := list10 hlen
      rw [cells10] at e
      have e2 := HW.out
      subst e2
      subst e
      clear hwr HW HQ HB HS HK hlen hq
      generalize u / 256 ^ 8 = q
      go_wp2
      refine bodyPost_ret (v := .agg (cellsU8 [a, b, c, d, f, g, i, j, k, l])) (by rw [cells10]; simp [results, Tryz.results44, go_sem]; rfl) rfl ?_
      exact ⟨rfl, (((Grew.refl _).alloc _).alloc _).alloc _⟩
    | succ m =>
      have hrow : wr.heap[w.heap.size + 1 + 1]? = some (.cells (cellsU8 ([t / 256, t % 256] ++ List.replicate (m + 1) 0 ++ be n u)) 96 (0, 0)) := by rw [hwr.out]; exact heap_alloc_new _ _ HS.out
      have hlen : ([t / 256, t % 256] ++ List.replicate (m + 1) 0 ++ be n u).length = 10 := by simp [be_length]; omega
      have hcell : wr.cell? ⟨w.heap.size + 1 + 1, m + 2, none⟩ = some (.int .u8 (((([t / 256, t % 256] ++ List.replicate (m + 1) 0 ++ be n u).getD (m + 2) 0 : Nat)) : Int)) := row_cell hrow _ (by omega)
      have hfro : wr.frozen? ⟨w.heap.size + 1 + 1, m + 2, none⟩ = false := frozen_of_row wr _ _ _ _ hrow
      generalize ([t / 256, t % 256] ++ List.replicate (m + 1) 0 ++ be n u).getD (m + 2) 0 = old at hcell
      generalize u / 256 ^ n = q at *
      clear hrow hlen
      go_wp2
      go_roundw
      case rel =>
        refine ⟨n + 1, m, by omega, by rw [← HQ.out]; simp, rfl, ?_⟩
        rw [Hid, hwr.out, show ((q : Int) % 256) = ((q % 256 : Nat) : Int) by omega, setCell_alloc _ _ _ _ _ _ HS.out, set_cellsU8, HB.out]
        rw [show m + 1 + 1 = m + 2 from rfl, set_row]
      case measure => simp [intOf]; omega

end Go.Proofs.YtbcmmeajglilbaaGreat
/-
  THE WALKS OF Hash, Partition.
-/
namespace Go.Proofs.YtbcmmeajglilbaaGreat
open Go.RowKit Go.Sort

theorem fnv_step (h c : Nat) (hh : h < 18446744073709551616) (hc : c < 256) :
    bits .xor .u64 (h : Int) (c : Int) = ((h ^^^ c : Nat) : Int) ∧ h ^^^ c < 18446744073709551616 ∧ IntKind.u64.wrap (((h ^^^ c : Nat) : Int) * 1099511628211) = ((fnvStep h c : Nat) : Int) := by
  have h1 : h ^^^ c < 18446744073709551616 := Nat.xor_lt_two_pow (n := 64) hh (by omega)
  refine ⟨u64_xor_nat h c hh (by omega), h1, ?_⟩
  rw [IntKind.wrap_u64]
  unfold fnvStep
  omega
theorem isKey_iff (t r : Int) : isKey (t, r) = true ↔ 0 ≤ t ∧ t ≤ 65535 := by simp [isKey]
theorem isKey_false (t r : Int) : isKey (t, r) = false ↔ ¬ (0 ≤ t ∧ t ≤ 65535) := by rw [← isKey_iff t r]; simp

theorem index10 (w : World) (C : Array Value) (n : Nat) (c : Int) (hn : n < 10) (h : C[n]? = some (.int .u8 c)) : Sem.run Tryz.prog (Instr.index 96 (.agg C) (.int .i64 (n : Int))) w = .ok (.int .u8 c) w := by
  have hz := Tryz.sizeOf5
  have ha := Tryz.isAgg5
  simp [Instr.index, run_underlying Tryz.underlying96, asIntOf, go_sem, hz, ha, h]
  intro h'; omega

set_option maxHeartbeats 1000000 in
set_option maxRecDepth 20000 in
theorem hash_any (w : World) (t r : Int) (hr : In64 r) :
    Calls Tryz.prog 11 #[.agg #[.int .i64 t, .int .i64 r]] w fun e w' => e = .returned (.int .u64 ((hash (t, r) : Nat) : Int)) ∧ ∃ q os, w' = grow (w.drewN q) os := by
  by_cases hk : isKey (t, r) = true
  · have HH : Hid (hash (t, r) = fnv (keyBytes (t, r))) := by rw [Hid]; unfold hash; rw [if_pos hk]
    obtain ⟨T, rfl⟩ := Int.eq_ofNat_of_zero_le ((isKey_iff t r).1 hk).1
    have hT : T ≤ 65535 := by have := ((isKey_iff T r).1 hk).2; omega
    have hlen := keyBytes_length ((T : Int), r)
    have hlt := keyBytes_lt hk
    have HSp : Hid (∀ w, Calls Tryz.prog 44 #[.agg #[.int .i64 (T : Int), .int .i64 r]] w fun e w' => e = .returned (.agg (cellsU8 (keyBytes ((T : Int), r)))) ∧ ∃ q os, w' = grow (w.drewN q) os) := fun w => spell_any w T r hT hr
    have HCk : Hid (∀ w, Calls Tryz.prog 43 #[.agg #[.int .i64 (T : Int), .int .i64 r]] w fun e w' => e = .returned (.int .i64 0) ∧ ∃ q os, w' = grow (w.drewN q) os) := fun w => by
      have := check_any w T r
      rwa [hk] at this
    generalize keyBytes ((T : Int), r) = L at *
    generalize hash ((T : Int), r) = hv at *
    clear hk hr
    go_enter Tryz.func11, Tryz.ntmps11
    go_wp2_with fail
    have B0 : Hid (Box (w.alloc (.cells #[.int .i64 (T : Int), .int .i64 r] 41)) w.heap.size T r) := Box.new rfl
    have HG : Hid (Grew w (w.alloc (.cells #[.int .i64 (T : Int), .int .i64 r] 41))) := (Grew.refl _).alloc _
    generalize w.alloc (.cells #[.int .i64 (T : Int), .int .i64 r] 41) = W at *
    refine (HCk.out W).mono ?_
    rintro e w1 ⟨rfl, g1⟩
    have B1 : Hid (Box w1 w.heap.size T r) := B0.out.grew g1
    have HG1 : Hid (Grew w w1) := HG.out.trans g1
    clear g1 HCk B0 HG
    obtain ⟨p1, p2⟩ := B1.out
    go_wp2_with fail
    refine (HSp.out w1).mono ?_
    rintro e w2 ⟨rfl, g2⟩
    have HG2 : Hid (Grew w w2) := HG1.out.trans g2
    clear g2 HSp HG1 B1 p1 p2
    go_wp2
    go_loop [3, 11] (fun x y => ∃ n : Nat, n ≤ 10 ∧ y = .int .i64 (n : Int) ∧ x = .int .u64 ((fnv (L.take n) : Nat) : Int)) (fun _ y => 10 - (intOf y).toNat)
    case atStart => exact ⟨0, by omega, rfl, rfl⟩
    case round =>
      obtain ⟨n, hn, rfl, rfl⟩ := hrel
      have hf := fnv_lt (L.take n)
      by_cases hlt' : n < 10
      · have hc := getD_lt hlt n
        have HF : Hid (fnv (L.take (n + 1)) = fnvStep (fnv (L.take n)) (L.getD n 0)) := by rw [Hid, take_snoc L n (by omega), fnv_snoc]
        have hidx : (cellsU8 L)[n]? = some (.int .u8 ((L.getD n 0 : Nat) : Int)) := getElem?_cellsU8 L n (by omega)
        obtain ⟨s1, s2, s3⟩ := fnv_step (fnv (L.take n)) (L.getD n 0) hf hc
        have hix := fun w => index10 w (cellsU8 L) n _ hlt' hidx
        clear hidx
        generalize cellsU8 L = C at *
        generalize fnv (L.take n) = h at *
        generalize L.getD n 0 = c at *
        generalize hst : fnvStep h c = st at *
        clear hst
        generalize h ^^^ c = x at *
        go_wp2
        go_round
        case rel => exact ⟨n + 1, by omega, by go_num, by rw [HF.out]⟩
        case measure => simp [intOf]; omega
      · obtain rfl : n = 10 := by omega
        have HE : Hid (fnv (L.take 10) = hv) := by rw [Hid, HH.out, List.take_of_length_le (by omega)]
        go_wp2
        go_ret
        exact ⟨by rw [← HE.out]; rfl, HG2.out⟩
  · have HH : Hid (hash (t, r) = 0) := by rw [Hid]; unfold hash; rw [if_neg hk]
    have HCk : Hid (∀ w, Calls Tryz.prog 43 #[.agg #[.int .i64 t, .int .i64 r]] w fun e w' => e = .returned (.int .i64 20) ∧ ∃ q os, w' = grow (w.drewN q) os) := fun w => by
      have := check_any w t r
      rwa [show isKey (t, r) = false by simpa using hk] at this
    clear hk hr
    go_enter Tryz.func11, Tryz.ntmps11
    go_wp2_with fail
    refine (HCk.out _).mono ?_
    rintro e w1 ⟨rfl, g1⟩
    have HG1 : Hid (Grew w w1) := ((Grew.refl _).alloc _).trans g1
    clear g1
    go_wp2
    go_ret
    exact ⟨by rw [HH.out]; rfl, HG1.out⟩

def okParts (p : Int) : Bool := decide (1 ≤ p) && decide (p ≤ 256)
theorem okParts_iff (p : Int) : okParts p = true ↔ 1 ≤ p ∧ p ≤ 256 := by simp [okParts]
/-- what Partition answers -/
def partV (k : K) (p : Int) : Int := if isKey k then (if okParts p then ((hash k : Int) % p) else 0) else 0
def partE (k : K) (p : Int) : Int := if isKey k then (if okParts p then 0 else 21) else 20

theorem canSplit_any (w : World) (p : Int) :
    Calls Tryz.prog 88 #[.int .i64 p] w fun e w' => e = .returned (.bool (okParts p)) ∧ w' = w := by
  by_cases h1 : 1 ≤ p
  · by_cases h2 : p ≤ 256
    · have HE : Hid (okParts p = true) := (okParts_iff p).2 ⟨h1, h2⟩
      go_enter Tryz.func88, Tryz.ntmps88
      go_wp2
      go_ret
      exact ⟨by rw [HE.out]; rfl, rfl⟩
    · have HE : Hid (okParts p = false) := by rw [Hid]; simp [okParts]; omega
      have h2' : decide (p ≤ 256) = false := by simpa using h2
      go_enter Tryz.func88, Tryz.ntmps88
      go_wp2
      go_ret
      exact ⟨by rw [HE.out]; rfl, rfl⟩
  · have HE : Hid (okParts p = false) := by rw [Hid]; simp [okParts]; omega
    have h1' : decide (1 ≤ p) = false := by simpa using h1
    go_enter Tryz.func88, Tryz.ntmps88
    go_wp2
    go_ret
    exact ⟨by rw [HE.out]; rfl, rfl⟩

set_option maxHeartbeats 1000000 in
theorem partition_any (w : World) (t r p : Int) (hr : In64 r) :
    Calls Tryz.prog 66 #[.agg #[.int .i64 t, .int .i64 r], .int .i64 p] w fun e w' => e = .returned (.tuple #[.int .i64 (partV (t, r) p), .int .i64 (partE (t, r) p)]) ∧ ∃ q os, w' = grow (w.drewN q) os := by
  have HC : Hid _ := fun w => check_any w t r
  have HS : Hid _ := fun w => canSplit_any w p
  have HH : Hid _ := fun w => hash_any w t r hr
  have hl := hash_lt (t, r)
  clear hr
  by_cases hk : isKey (t, r) = true
  · have HC' : Hid (∀ w, Calls Tryz.prog 43 #[.agg #[.int .i64 t, .int .i64 r]] w fun e w' => e = .returned (.int .i64 0) ∧ ∃ q os, w' = grow (w.drewN q) os) := fun w => by
      have := HC.out w
      rwa [hk] at this
    by_cases hp : okParts p = true
    · have HV : Hid (partV (t, r) p = (hash (t, r) : Int) % p ∧ partE (t, r) p = 0) := by rw [Hid]; simp [partV, partE, hk, hp]
      have HS' : Hid (∀ w, Calls Tryz.prog 88 #[.int .i64 p] w fun e w' => e = .returned (.bool true) ∧ w' = w) := fun w => by
        have := HS.out w
        rwa [hp] at this
      obtain ⟨h1, h2⟩ := (okParts_iff p).1 hp
      obtain ⟨P, rfl⟩ := Int.eq_ofNat_of_zero_le (show 0 ≤ p by omega)
      generalize partV (t, r) P = v at *
      generalize partE (t, r) P = ev at *
      generalize hash (t, r) = hv at *
      clear HC HS hk hp
      go_enter Tryz.func66, Tryz.ntmps66
      go_wp2_with fail
      have B0 : Hid (Box (w.alloc (.cells #[.int .i64 t, .int .i64 r] 41)) w.heap.size t r) := Box.new rfl
      have HG : Hid (Grew w (w.alloc (.cells #[.int .i64 t, .int .i64 r] 41))) := (Grew.refl _).alloc _
      generalize w.alloc (.cells #[.int .i64 t, .int .i64 r] 41) = W at *
      refine (HC'.out W).mono ?_
      rintro e w1 ⟨rfl, g1⟩
      have B1 : Hid (Box w1 w.heap.size t r) := B0.out.grew g1
      have HG1 : Hid (Grew w w1) := HG.out.trans g1
      clear g1 HC' B0 HG
      obtain ⟨p1, p2⟩ := B1.out
      go_wp2_with fail
      refine (HS'.out w1).mono ?_
      rintro e w2 ⟨rfl, rfl⟩
      go_wp2_with fail
      refine (HH.out w2).mono ?_
      rintro e w3 ⟨rfl, g3⟩
      have HG3 : Hid (Grew w w3) := HG1.out.trans g3
      clear g3 HH HS' B1 p1 p2 HG1
      have hm : (hv : Int) % (P : Int) < 256 := by have := Int.emod_lt_of_pos (hv : Int) (show (0 : Int) < P by omega); omega
      have hm0 : 0 ≤ (hv : Int) % (P : Int) := Int.emod_nonneg _ (by omega)
      go_wp2
      go_ret2
      exact ⟨by rw [HV.out.1, HV.out.2]; rfl, HG3.out⟩
    · have HV : Hid (partV (t, r) p = 0 ∧ partE (t, r) p = 21) := by rw [Hid]; simp [partV, partE, hk, hp]
      have HS' : Hid (∀ w, Calls Tryz.prog 88 #[.int .i64 p] w fun e w' => e = .returned (.bool false) ∧ w' = w) := fun w => by
        have := HS.out w
        rwa [show okParts p = false by simpa using hp] at this
      generalize partV (t, r) p = v at *
      generalize partE (t, r) p = ev at *
      clear HC HS hk hp HH hl
      go_enter Tryz.func66, Tryz.ntmps66
      go_wp2_with fail
      refine (HC'.out _).mono ?_
      rintro e w1 ⟨rfl, g1⟩
      have HG1 : Hid (Grew w w1) := ((Grew.refl _).alloc _).trans g1
      clear g1 HC'
      go_wp2_with fail
      refine (HS'.out w1).mono ?_
      rintro e w2 ⟨rfl, rfl⟩
      go_wp2
      go_ret2
      exact ⟨by rw [HV.out.1, HV.out.2]; rfl, HG1.out⟩
  · have HV : Hid (partV (t, r) p = 0 ∧ partE (t, r) p = 20) := by rw [Hid]; simp [partV, partE, hk]
    have HC' : Hid (∀ w, Calls Tryz.prog 43 #[.agg #[.int .i64 t, .int .i64 r]] w fun e w' => e = .returned (.int .i64 20) ∧ ∃ q os, w' = grow (w.drewN q) os) := fun w => by
      have := HC.out w
      rwa [show isKey (t, r) = false by simpa using hk] at this
    generalize partV (t, r) p = v at *
    generalize partE (t, r) p = ev at *
    clear HC HS hk HH hl
    go_enter Tryz.func66, Tryz.ntmps66
    go_wp2_with fail
    refine (HC'.out _).mono ?_
    rintro e w1 ⟨rfl, g1⟩
    have HG1 : Hid (Grew w w1) := ((Grew.refl _).alloc _).trans g1
    clear g1 HC'
    go_wp2
    go_ret2
    exact ⟨by rw [HV.out.1, HV.out.2]; rfl, HG1.out⟩

end Go.Proofs.YtbcmmeajglilbaaGreat
/-
  A STORE IN MEMORY; Live, Room, told, Look, KeyOf.
-/
namespace Go.Proofs.YtbcmmeajglilbaaGreat
open Go.RowKit Go.Sort

/-- a key's versions, the oldest first -/
def ofK (k : K) (vs : List Vr) : List Vr := vs.filter (fun v => decide (v.k = k))
/-- of two versions the later one -/
def later (a b : Vr) : Prop := b.ba < a.ba ∨ b.ba = a.ba ∧ b.ix < a.ix
/-- the store in block S: vs all versions by rising number, es the Dict's entries, R a key's row: its block, where its list begins in it, its room -/
structure SA (w : World) (S V D M L P : Nat) (hf : Value) (cap last : Int) (vs : List Vr) (es : List En) (R : K → Nat × Nat × Nat) : Prop where
  st : w.heap[S]? = some (.cells #[.int .i64 (P : Int), .int .i64 cap, .int .i64 last, .map (some V), ptr D] 61 (0, 0))
  vm : ∃ ms clock, w.heap[V]? = some (.map ms clock) ∧ ms.toList.map (fun x => (x.key, x.val)) = vs.map (fun v => (.int .i64 v.n, ptr v.b))
  vb : ∀ v ∈ vs, w.heap[v.b]? = some (.cells (cellsV v) 102 (0, 0))
  da : DA w D M L hf P es
  ch : ∀ e ∈ es, w.heap[e.v]? = some (.cells #[.slice (some ⟨(R e.k).1, (R e.k).2.1, none⟩) (ofK e.k vs).length (R e.k).2.2] 117 (0, 0))
  rw : ∀ e ∈ es, ∃ cur, w.heap[(R e.k).1]? = some (.cells cur 98 (0, 0)) ∧ cur.size = (R e.k).2.1 + (R e.k).2.2 ∧ ∀ j (h : j < (ofK e.k vs).length), cur[(R e.k).2.1 + j]? = some (ptr (ofK e.k vs)[j].b)
  rl : ∀ e ∈ es, (ofK e.k vs).length ≤ (R e.k).2.2
  ne : ∀ e ∈ es, ofK e.k vs ≠ []
  all : ∀ v ∈ vs, ∃ e ∈ es, e.k = v.k
  cb : (es.map En.v).Nodup
  rn : ∀ e ∈ es, ∀ e' ∈ es, (R e.k).1 = (R e'.k).1 → e = e'
  nn : vs.Pairwise (fun a b => a.n < b.n)
  nl : ∀ v ∈ vs, 1 ≤ v.n ∧ v.n ≤ last
  bn : (vs.map Vr.b).Nodup
  pl : ∀ k, (ofK k vs).Pairwise (fun a b => later b a)
  inn : ∀ v ∈ vs, KIn v.k ∧ In64 v.ba ∧ In64 v.ix ∧ In64 v.cv
  VM : V ≠ M
  lt : last ≤ 1000000000000000 ∧ 1 ≤ cap ∧ cap ≤ 65536 ∧ (vs.length : Int) ≤ cap
  el : es.length ≤ vs.length
  cm : ∀ e ∈ es, (R e.k).2.2 ≤ 9223372036854775807
  ph : ∀ e ∈ es, e.p = hash e.k % P
  ik : ∀ v ∈ vs, isKey v.k = true
section
variable {w w' : World} {S V D M L P : Nat} {hf : Value} {cap last : Int} {vs : List Vr} {es : List En} {R : K → Nat × Nat × Nat}
theorem SA.cells (h : SA w S V D M L P hf cap last vs es R) : w.cell? ⟨S, 0, none⟩ = some (.int .i64 (P : Int)) ∧ w.cell? ⟨S, 1, none⟩ = some (.int .i64 cap) ∧ w.cell? ⟨S, 2, none⟩ = some (.int .i64 last) ∧ w.cell? ⟨S, 3, none⟩ = some (.map (some V)) ∧ w.cell? ⟨S, 4, none⟩ = some (ptr D) := by
  refine ⟨?_, ?_, ?_, ?_, ?_⟩ <;> simp [World.cell?, h.st]
/-- what a store is made of -/
def Fs (S V D M L : Nat) (vs : List Vr) (es : List En) (R : K → Nat × Nat × Nat) (k : Nat) : Prop := k = S ∨ k = V ∨ (∃ v ∈ vs, v.b = k) ∨ (k = D ∨ Ft M L es k) ∨ (∃ e ∈ es, e.v = k) ∨ (∃ e ∈ es, (R e.k).1 = k)
theorem SA.lt' (h : SA w S V D M L P hf cap last vs es R) {k : Nat} (hk : Fs S V D M L vs es R k) : k < w.heap.size := by
  rcases hk with rfl | rfl | ⟨v, hv, rfl⟩ | hd | ⟨e, he, rfl⟩ | ⟨e, he, rfl⟩
  · exact blk_lt h.st
  · obtain ⟨_, _, h1, _⟩ := h.vm; exact blk_lt h1
  · exact blk_lt (h.vb v hv)
  · exact h.da.lt hd
  · exact blk_lt (h.ch e he)
  · obtain ⟨_, h1, _⟩ := h.rw e he; exact blk_lt h1
theorem SA.same (h : SA w S V D M L P hf cap last vs es R) (hs : ∀ k, Fs S V D M L vs es R k → w'.heap[k]? = w.heap[k]?) : SA w' S V D M L P hf cap last vs es R := by
  refine ⟨(hs S (.inl rfl)).trans h.st, ?_, fun v hv => (hs _ (.inr (.inr (.inl ⟨v, hv, rfl⟩)))).trans (h.vb v hv), h.da.same (fun k hk => hs k (.inr (.inr (.inr (.inl hk))))), fun e he => (hs _ (.inr (.inr (.inr (.inr (.inl ⟨e, he, rfl⟩)))))).trans (h.ch e he), fun e he => ?_, h.rl, h.ne, h.all, h.cb, h.rn, h.nn, h.nl, h.bn, h.pl, h.inn, h.VM, h.lt, h.el, h.cm, h.ph, h.ik⟩
  · obtain ⟨ms, c, h1, h2⟩ := h.vm
    exact ⟨ms, c, (hs V (.inr (.inl rfl))).trans h1, h2⟩
  · obtain ⟨cur, h1, h2⟩ := h.rw e he
    exact ⟨cur, (hs _ (.inr (.inr (.inr (.inr (.inr ⟨e, he, rfl⟩)))))).trans h1, h2⟩
theorem SA.kept (h : SA w S V D M L P hf cap last vs es R) (hb : Below w.heap.size w w') : SA w' S V D M L P hf cap last vs es R := h.same (fun _ hk => hb.block _ (h.lt' hk))
theorem SA.nums (h : SA w S V D M L P hf cap last vs es R) : (∀ v ∈ vs, In64 v.n) ∧ (vs.map Vr.n).Nodup := by
  refine ⟨fun v hv => by have := h.nl v hv; have := h.lt; unfold In64; omega, ?_⟩
  refine (List.Pairwise.map (f := Vr.n) (R := fun a b => a.n < b.n) (S := (· ≠ ·)) (fun a b hab => by omega) h.nn)
theorem SA.look (h : SA w S V D M L P hf cap last vs es R) {n : Int} (hn : In64 n) : (Instr.lookup 59 (.map (some V)) (.int .i64 n) false).run Tryz.prog w = .ok (pf (fv vs n)) w := by
  obtain ⟨ms, c, h1, h2⟩ := h.vm
  exact vm_look h1 h.nums.1 h2 h.nums.2 hn
theorem SA.len (h : SA w S V D M L P hf cap last vs es R) (ty : TypeId) : (Builtin.len_ #[59] ty #[.map (some V)]).run Tryz.prog w = .ok (.int .i64 (vs.length : Int)) w := by
  obtain ⟨ms, c, h1, h2⟩ := h.vm
  have e1 : ms.size = vs.length := by have := congrArg List.length h2; simpa using this
  simp [Builtin.len_, run_underlying Tryz.underlying59, MapKept.run_getObj_map h1, goInt, Result.andThen, e1]
theorem SA.vcells (h : SA w S V D M L P hf cap last vs es R) {v : Vr} (hv : v ∈ vs) : (w.cell? ⟨v.b, 0, none⟩ = some (.int .i64 v.ba) ∧ w.cell? ⟨v.b, 1, none⟩ = some (.int .i64 v.ix) ∧ w.cell? ⟨v.b, 2, none⟩ = some (.int .i64 v.n) ∧ w.cell? ⟨v.b, 3, none⟩ = some (.int .i64 v.k.1) ∧ w.cell? ⟨v.b, 4, none⟩ = some (.int .i64 v.k.2) ∧ w.cell? ⟨v.b, 5, none⟩ = some (.bool v.fl) ∧ w.cell? ⟨v.b, 6, none⟩ = some (.bool v.ci) ∧ w.cell? ⟨v.b, 7, none⟩ = some (.int .i64 v.cv)) := by
  refine ⟨?_, ?_, ?_, ?_, ?_, ?_, ?_, ?_⟩ <;> simp [World.cell?, h.vb v hv, cellsV]
end

set_option maxHeartbeats 1000000 in
theorem live_any (w : World) (S V D M L P : Nat) (hf : Value) (cap last : Int) (vs : List Vr) (es : List En) (R : K → Nat × Nat × Nat) (h : SA w S V D M L P hf cap last vs es R) :
    Calls Tryz.prog 36 #[ptr S] w fun e w' => e = .returned (.int .i64 (vs.length : Int)) ∧ w' = w := by
  obtain ⟨_, _, _, c3, _⟩ := h.cells
  have hl := h.len
  clear h
  go_enter Tryz.func36, Tryz.ntmps36
  go_wp2
  go_ret
  exact ⟨rfl, rfl⟩
set_option maxHeartbeats 1000000 in
theorem room_any (w : World) (S V D M L P : Nat) (hf : Value) (cap last : Int) (vs : List Vr) (es : List En) (R : K → Nat × Nat × Nat) (h : SA w S V D M L P hf cap last vs es R) :
    Calls Tryz.prog 37 #[ptr S] w fun e w' => e = .returned (.int .i64 (cap - (vs.length : Int))) ∧ ∃ q, w' = w.drewN q := by
  obtain ⟨_, c1, _, _, _⟩ := h.cells
  have hlt := h.lt
  have HL : Hid (∀ n, Calls Tryz.prog 36 #[ptr S] (w.drewN n) fun e w' => e = .returned (.int .i64 (vs.length : Int)) ∧ w' = w.drewN n) := fun n => live_any (w.drewN n) S V D M L P hf cap last vs es R (h.same fun _ _ => rfl)
  clear h
  generalize vs.length = nv at *
  go_enter Tryz.func37, Tryz.ntmps37
  go_wp2_with fail
  go_quiet ((go_at_call 36; exact Calls.quiet_of_same (HL.out _)))
  have hw : wrap64 (cap - (nv : Int)) = cap - (nv : Int) := by unfold wrap64; omega
  go_wp2
  go_ret
  exact ⟨rfl, nq, rfl⟩
/-- a version, as it is told -/
abbrev toldV (v : Vr) : Value := .agg #[.int .i64 v.ba, .int .i64 v.ix, .bool v.fl, .bool v.ci, .int .i64 v.cv]
end Go.Proofs.YtbcmmeajglilbaaGreat
