import Derived.Test.YtmkomfbjgmgemaaGreatDoorJALLine
import Derived.Test.YtmkomfbjgmgemaaGreatDoorJScan
/-
  THE WALK OF landings.
-/
namespace Go.Proofs.YtmkomfbjgmgemaaGreatDoor
open Go.RowKit Go.Sort Go.Shelf

def cellsB (L : List Bool) : Array Value := (L.map Value.bool).toArray
theorem infoBl : (Tryz.prog.info? 4).map (fun i => (i.zero, i.size, i.bytes)) = some (some (.bool false), 1, 1) := by kernel_rfl
theorem made_cellsB (n : Nat) : madeCells #[.bool false] n = cellsB (List.replicate n false) := by
  apply Array.ext'
  rw [toList_madeCells_one]
  simp [cellsB]
theorem make_bools (c : Nat) (C : Int) (hC : C = c) (hc : c ≤ 1000000) (u : World) : (Instr.makeSlice 98 (.int .i64 C) (.int .i64 C)).run Tryz.prog u =
    .ok (.slice (some ⟨u.heap.size, 0, none⟩) c c) (u.alloc (.cells (cellsB (List.replicate c false)) 4)) := by
  obtain ⟨i0, hi, hz0, hz1, hz2⟩ := info_parts infoBl
  subst hC
  have h := run_make (P := Tryz.prog) u 98 4 i0 (.bool false) Tryz.underlying98 hi hz0 .i64 .i64 (c : Int) (c : Int) (by omega) (Int.le_refl _) (by rw [hz2]; omega) (by omega)
  rw [← made_cellsB]
  simpa [hz1, Value.cells] using h
/-- BLOCK g IS A ROW OF BOOLS -/
def RowBl (w : World) (g : Nat) (L : List Bool) : Prop := w.heap[g]? = some (.cells (cellsB L) 4 (0, 0))
theorem RowBl.lt {w : World} {g : Nat} {L : List Bool} (h : RowBl w g L) : g < w.heap.size := (Array.getElem?_eq_some_iff.1 h).1
theorem RowBl.cell {w : World} {g : Nat} {L : List Bool} (h : RowBl w g L) {j : Nat} {x : Bool} (hx : L[j]? = some x) : w.cell? ⟨g, j, none⟩ = some (.bool x) := by
  simp [World.cell?, show w.heap[g]? = _ from h, cellsB, hx]
theorem RowBl.frozen {w : World} {g : Nat} {L : List Bool} (h : RowBl w g L) (j : Nat) : w.frozen? ⟨g, j, none⟩ = false := frozen_of_row w g j _ _ h
theorem RowBl.kept {w w1 : World} {g : Nat} {L : List Bool} (h : RowBl w g L) (hb : Below w.heap.size w w1) : RowBl w1 g L := (hb.block g h.lt).trans h
theorem RowBl.set {w : World} {g : Nat} {L : List Bool} (h : RowBl w g L) (i : Nat) (z : Bool) : RowBl (w.setCell ⟨g, i, none⟩ (.bool z)) g (L.set i z) := by
  have := heap_setCell_same w g i _ _ (.bool z) h
  unfold RowBl
  rw [this]
  simp [cellsB, List.map_set]
/-- does one of these go to the place? -/
def lndB (L : List K) (a : Nat) : Bool := L.any fun k => jumpB k.1 && decide (k.2 = (a : Int))
def lndL (L : List K) (n : Nat) : List Bool := (List.range (n + 1)).map (lndB L)
theorem lndL_nil (n : Nat) : lndL [] n = List.replicate (n + 1) false := by
  apply List.ext_getElem?
  intro i
  by_cases hi : i < n + 1
  · simp [lndL, lndB, hi]
  · simp [lndL, hi]
theorem lndL_get {L : List K} {n a : Nat} (h : a ≤ n) : (lndL L n)[a]? = some (lndB L a) := by simp [lndL, show a < n + 1 by omega]
theorem lndL_no {L : List K} {n : Nat} {k : K} (h : jumpB k.1 = false) : lndL (L ++ [k]) n = lndL L n := by
  unfold lndL
  refine List.map_congr_left fun a _ => ?_
  simp [lndB, h]
theorem lndL_yes {L : List K} {n a : Nat} {k : K} (h : jumpB k.1 = true) (ha : k.2 = (a : Int)) : lndL (L ++ [k]) n = (lndL L n).set a true := by
  apply List.ext_getElem?
  intro j
  rw [List.getElem?_set]
  by_cases hj : j < n + 1
  · by_cases e : a = j
    · subst e; simp [lndL, lndB, hj, h, ha]
    · have e' : ¬ (k.2 = (j : Int)) := by rw [ha]; omega
      simp [lndL, lndB, hj, h, e', e]
  · by_cases e : a = j
    · subst e; simp [lndL, hj]
    · simp [lndL, hj, e]

set_option maxRecDepth 100000 in
set_option maxHeartbeats 2000000 in
theorem landings_any (w : World) (ao : Option Addr) (n cap : Nat) (L : List K) (h : KeysAt w ao L) (hn : n = L.length) (hm : n ≤ 256) (hj : ∀ k ∈ L, jumpB k.1 = true → 0 ≤ k.2 ∧ k.2 ≤ (n : Int)) :
    Calls Tryz.prog 34 #[.slice ao n cap] w fun e w' => ∃ g, e = .returned (.slice (some ⟨g, 0, none⟩) (n + 1) (n + 1)) ∧ RowBl w' g (lndL L n) ∧ Below w.heap.size w w' ∧ w.heap.size ≤ g := by
  have H : Hid (KeysAt w ao L) := h
  have HN : Hid (n = L.length) := hn
  have HJ : Hid (∀ k ∈ L, jumpB k.1 = true → 0 ≤ k.2 ∧ k.2 ≤ (n : Int)) := hj
  clear h hn hj
  have hmk := make_bools (n + 1) ((n : Int) + 1) (by omega) (by omega)
  have HR0 : Hid (RowBl (w.alloc (.cells (cellsB (List.replicate (n + 1) false)) 4)) w.heap.size (lndL (L.take 0) n)) := by
    rw [List.take_zero, lndL_nil]; exact heap_alloc_new _ _ rfl
  have HB0 : Hid (Below w.heap.size w (w.alloc (.cells (cellsB (List.replicate (n + 1) false)) 4))) := (Below.refl _ _).alloc (Nat.le_refl _) _
  go_enter Tryz.func34, Tryz.ntmps34
  go_wp2_with fail
  generalize w.alloc (.cells (cellsB (List.replicate (n + 1) false)) 4) = w1 at *
  clear hmk
  go_loopw [12] (fun x wr => ∃ k : Nat, k ≤ n ∧ x = .int .i64 (k : Int) ∧ Hid (RowBl wr w.heap.size (lndL (L.take k) n)) ∧ Hid (Below w.heap.size w wr)) (fun x _ => n - (intOf x).toNat)
  case atStart => exact ⟨0, Nat.zero_le _, rfl, HR0, HB0⟩
  case round =>
    clear HR0 HB0
    obtain ⟨k, hk, rfl, HR, HB⟩ := hrel
    by_cases hlt : k < n
    · have hlt' : k < L.length := by have := HN.out; omega
      obtain ⟨b, off, rfl, c1, c2⟩ := (H.out.kept HB.out).get k hlt'
      have HT : Hid (L.take (k + 1) = L.take k ++ [cd L k]) := take_kd L k hlt'
      have HJk : Hid (jumpB (cd L k).1 = true → 0 ≤ (cd L k).2 ∧ (cd L k).2 ≤ (n : Int)) := HJ.out _ (kd_mem hlt')
      generalize cd L k = kk at *
      obtain ⟨op, A⟩ := kk
      simp only at c1 c2
      have HBl : Hid (Below wr.heap.size wr (wr.alloc (.cells #[.int .i64 op, .int .i64 A] 40))) := (Below.refl _ _).alloc (Nat.le_refl _) _
      have HR1 : Hid (RowBl (wr.alloc (.cells #[.int .i64 op, .int .i64 A] 40)) w.heap.size (lndL (L.take k) n)) := HR.out.kept HBl.out
      have HB1 : Hid (Below w.heap.size w (wr.alloc (.cells #[.int .i64 op, .int .i64 A] 40))) := HB.out.trans (HBl.out.mono HB.out.size)
      have x0 := (Box.new (w := wr) (b := wr.heap.size) (x := op) (y := A) rfl).1
      have x1 := (Box.new (w := wr) (b := wr.heap.size) (x := op) (y := A) rfl).2
      go_wp2_with fail
      generalize wr.alloc (.cells #[.int .i64 op, .int .i64 A] 40) = w2 at *
      refine (isJump_any w2 op).mono ?_
      rintro e w3 ⟨rfl, rfl⟩
      cases hjm : jumpB op with
      | true =>
        obtain ⟨h1, h2⟩ := HJk.out hjm
        obtain ⟨a, rfl⟩ := Int.eq_ofNat_of_zero_le h1
        have han : a ≤ n := by omega
        have f0 := HR1.out.frozen a
        have d0 := HR1.out.cell (lndL_get (L := L.take k) han)
        have HR2 : Hid (RowBl (w3.setCell ⟨w.heap.size, a, none⟩ (.bool true)) w.heap.size (lndL (L.take (k + 1)) n)) := by
          rw [HT.out, lndL_yes (k := (op, (a : Int))) hjm rfl]; exact HR1.out.set a true
        have HB2 : Hid (Below w.heap.size w (w3.setCell ⟨w.heap.size, a, none⟩ (.bool true))) := by
          have hg := grown_setCell w3 ⟨w.heap.size, a, none⟩ (.bool true)
          exact HB1.out.trans (below_grown hg (fun q hq => by cases hq; exact Nat.le_refl _) HB1.out.size)
        clear h1 h2 HR HB HR1 HB1 HJk
        go_wp2
        go_roundw
        case rel => exact ⟨k + 1, by omega, by go_num, HR2, HB2⟩
        case measure => simp [intOf]; omega
      | false =>
        have HR2 : Hid (RowBl w3 w.heap.size (lndL (L.take (k + 1)) n)) := by rw [HT.out, lndL_no (k := (op, A)) hjm]; exact HR1.out
        clear HR HB HR1 HJk
        go_wp2
        go_roundw
        case rel => exact ⟨k + 1, by omega, by go_num, HR2, HB1⟩
        case measure => simp [intOf]; omega
    · obtain rfl : k = n := by omega
      have HR2 : Hid (RowBl wr w.heap.size (lndL L k)) := by have := HR.out; rw [HN.out, List.take_length, ← HN.out] at this; exact this
      clear HR
      go_wp2
      go_ret
      exact ⟨w.heap.size, rfl, HR2.out, HB.out, Nat.le_refl _⟩
end Go.Proofs.YtmkomfbjgmgemaaGreatDoor
