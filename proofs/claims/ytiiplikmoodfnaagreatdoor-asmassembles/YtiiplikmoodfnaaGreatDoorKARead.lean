import Derived.Test.YtiiplikmoodfnaaGreatDoorKASplit
import Derived.Test.YtiiplikmoodfnaaGreatDoorKBytes
import Derived.Deep.RegionHeld3
import Derived.Deep.QuietTactic
/-
  A LINE's READER: wrongAt, wrong, next, must, end.
-/
namespace Go.Proofs.YtiiplikmoodfnaaGreatDoor
open Go.RowKit Go.Sort

/-- what stays, but for block r -/
structure Bx (r : Nat) (W W' : World) : Prop where
  os : W'.os = W.os
  tape : W'.tape = W.tape
  output : W'.output = W.output
  size : W.heap.size ≤ W'.heap.size
  block : ∀ b, b < W.heap.size → b ≠ r → W'.heap[b]? = W.heap[b]?
theorem Bx.refl (r : Nat) (W : World) : Bx r W W := ⟨rfl, rfl, rfl, Nat.le_refl _, fun _ _ _ => rfl⟩
theorem Bx.trans {r : Nat} {a b c : World} (h : Bx r a b) (k : Bx r b c) : Bx r a c := ⟨k.os.trans h.os, k.tape.trans h.tape, k.output.trans h.output, Nat.le_trans h.size k.size, fun i hi hr => (k.block i (Nat.lt_of_lt_of_le hi h.size) hr).trans (h.block i hi hr)⟩
theorem Bx.bel {r : Nat} {a b : World} (h : Go.RowKit.Below a.heap.size a b) : Bx r a b := ⟨h.os, h.tape, h.output, h.size, fun i hi _ => h.block i hi⟩
theorem Bx.set (r : Nat) (W : World) (i : Nat) (v : Value) : Bx r W (W.setCell ⟨r, i, none⟩ v) := ⟨rfl, rfl, rfl, by simp, fun b _ hb => heap_setCell_other W ⟨r, i, none⟩ b v hb⟩
theorem below_setC {C : Nat} {W : World} (a : Addr) (v : Value) (hC : C ≤ a.block) : Go.RowKit.Below C W (W.setCell a v) := ⟨rfl, rfl, rfl, by simp, fun k hk => heap_setCell_other W a k v (by omega)⟩
/-- an error with its place -/
def ErrAt (W : World) (v : Value) (line col : Nat) (n : Int) : Prop := ∃ b, v = .iface 63 (.pointer (some ⟨b, 0, none⟩)) ∧ W.heap[b]? = some (.cells #[.int .i64 (line : Int), .int .i64 (col : Int), .iface 51 (.int .i64 n)] 67 (0, 0))
theorem ErrAt.kept {W W' : World} {v : Value} {line col : Nat} {n : Int} (h : ErrAt W v line col n) (hb : Go.RowKit.Below W.heap.size W W') : ErrAt W' v line col n := by
  obtain ⟨b, h1, h2⟩ := h
  exact ⟨b, h1, (hb.block b (Array.getElem?_eq_some_iff.1 h2).1).trans h2⟩
theorem wrongAt_any (w : World) (line col : Nat) (n : Int) : Calls Tryz.prog 15 #[.agg #[.int .i64 (line : Int), .int .i64 (col : Int)], .iface 51 (.int .i64 n)] w fun e w' => ∃ v, e = .returned v ∧ ErrAt w' v line col n ∧ Go.RowKit.Below w.heap.size w w' := by
  go_enter Tryz.func15, Tryz.ntmps15
  go_wp2
  go_ret
  exact ⟨_, rfl, ⟨_, rfl, heap_alloc_new _ _ (by simp)⟩, ((Below.refl _ _).alloc (Nat.le_refl _) _).alloc (by simp) _⟩
theorem wrong_any (w : World) (col : Nat) (n : Int) : Calls Tryz.prog 49 #[.int .i64 (col : Int), .int .i64 n] w fun e w' => ∃ v, e = .returned v ∧ ErrAt w' v 0 col n ∧ Go.RowKit.Below w.heap.size w w' := by
  have HC := wrongAt_any w 0 col n
  go_enter Tryz.func49, Tryz.ntmps49
  go_wp2_with fail
  refine HC.mono ?_
  rintro e w1 ⟨v, rfl, h1, h2⟩
  go_wp2_with fail
  go_ret
  exact ⟨v, rfl, h1, h2⟩
/-- block r is a reader -/
def RB (Z : Nat → Prop) (W : World) (r : Nat) (rd : Rd) : Prop := ∃ a c, W.heap[r]? = some (.cells #[.slice a rd.1.length c, .int .i64 (rd.2 : Int)] 86 (0, 0)) ∧ CellsAt W a (wcs rd.1) ∧ (∀ ad, a = some ad → rd.1 ≠ [] → ad.block ≠ r ∧ Z ad.block) ∧ rd.1.length ≤ c
def SmallW (ws : List Wd) : Prop := (∀ x ∈ ws, x.2 + x.1.length ≤ 1000000) ∧ ws.length ≤ 1000000
theorem CellsAt.bx {W W' : World} {r : Nat} {a : Option Addr} {xs : List Value} (h : CellsAt W a xs) (hb : Bx r W W') (hr : ∀ ad, a = some ad → xs ≠ [] → ad.block ≠ r) : CellsAt W' a xs := by
  rcases h with h | ⟨b, off, rfl, hc⟩
  · exact .inl h
  · by_cases hx : xs = []
    · exact .inl hx
    · refine .inr ⟨b, off, rfl, fun j u hu => ?_⟩
      have h1 := hc j u hu
      have h2 := hb.block b (cell_lt h1) (hr _ rfl hx)
      simp only [World.cell?] at h1 ⊢
      rw [h2]; exact h1
theorem RB.kept {Z : Nat → Prop} {W W' : World} {r : Nat} {rd : Rd} (h : RB Z W r rd) (hb : Go.RowKit.Below W.heap.size W W') : RB Z W' r rd := by
  obtain ⟨a, c, h1, h2, h3, h4⟩ := h
  exact ⟨a, c, (hb.block r (Array.getElem?_eq_some_iff.1 h1).1).trans h1, h2.below hb, h3, h4⟩
theorem RB.cells {W : World} {r : Nat} {ws : List Wd} {bh : Nat} {a : Option Addr} {c : Nat} (h1 : W.heap[r]? = some (.cells #[.slice a ws.length c, .int .i64 (bh : Int)] 86 (0, 0))) : W.cell? ⟨r, 0, none⟩ = some (.slice a ws.length c) ∧ W.cell? ⟨r, 1, none⟩ = some (.int .i64 (bh : Int)) ∧ W.frozen? ⟨r, 0, none⟩ = false ∧ W.frozen? ⟨r, 1, none⟩ = false :=
  ⟨by simp [World.cell?, h1], by simp [World.cell?, h1], frozen_of_row W r 0 _ _ h1, frozen_of_row W r 1 _ _ h1⟩
/-- block b is a word's box -/
def WB (W : World) (b : Nat) (u v : Value) : Prop := W.heap[b]? = some (.cells #[u, v] 83 (0, 0))
theorem WB.cells {W : World} {b : Nat} {u v : Value} (h : WB W b u v) : W.cell? ⟨b, 0, none⟩ = some u ∧ W.cell? ⟨b, 1, none⟩ = some v ∧ W.frozen? ⟨b, 0, none⟩ = false ∧ W.frozen? ⟨b, 1, none⟩ = false :=
  ⟨by simp [World.cell?, show W.heap[b]? = _ from h], by simp [World.cell?, show W.heap[b]? = _ from h], frozen_of_row W b 0 _ _ h, frozen_of_row W b 1 _ _ h⟩
theorem WB.set {W : World} {b : Nat} {u v : Value} (h : WB W b u v) (u' v' : Value) : WB ((W.setCell ⟨b, 0, none⟩ u').setCell ⟨b, 1, none⟩ v') b u' v' := heap_setCell_same _ b 1 _ _ v' (heap_setCell_same W b 0 _ _ u' h)
theorem load_word {W : World} {b : Nat} {u v : Value} (h : WB W b u v) : (loadVar 83 ⟨b, 0, none⟩).run Tryz.prog W = .ok (.agg #[u, v]) W := by
  obtain ⟨q0, q1, _⟩ := h.cells
  simp [go_sem, q0, q1]
theorem ErrAt.word {W : World} {v : Value} {line col : Nat} {n : Int} {b i : Nat} {u1 u2 u : Value} (h : ErrAt W v line col n) (hw : WB W b u1 u2) : ErrAt (W.setCell ⟨b, i, none⟩ u) v line col n := by
  obtain ⟨g, h1, h2⟩ := h
  refine ⟨g, h1, (heap_setCell_other W ⟨b, i, none⟩ g u ?_).trans h2⟩
  intro e
  have e' : g = b := e
  subst e'
  have := h2.symm.trans hw
  simp only [Option.some.injEq, Obj.cells.injEq] at this
  exact absurd this.2.1 (by decide)
/-- next's answers -/
def NextPost (Z : Nat → Prop) (W : World) (r : Nat) (rd : Rd) (e : Ending) (w' : World) : Prop :=
  (∃ v col, rNext rd = .error (col, 40) ∧ e = .returned (.tuple #[.agg #[.string ⟨#[]⟩, .int .i64 0], v]) ∧ ErrAt w' v 0 col 40 ∧ RB Z w' r rd ∧ Bx r W w') ∨
  (∃ x rd', rNext rd = .ok (x, rd') ∧ e = .returned (.tuple #[.agg #[.string (S x.1), .int .i64 (x.2 : Int)], .nilIface]) ∧ RB Z w' r rd' ∧ Bx r W w')
set_option maxRecDepth 100000 in
set_option maxHeartbeats 1000000 in
theorem next_any {Z : Nat → Prop} (w : World) (r : Nat) (rd : Rd) (h : RB Z w r rd) (hs : SmallW rd.1) : Calls Tryz.prog 42 #[.pointer (some ⟨r, 0, none⟩)] w fun e w' => NextPost Z w r rd e w' := by
  obtain ⟨ws, bh⟩ := rd
  obtain ⟨a, c, h1, h2, h3, h4⟩ := h
  have hr : r < w.heap.size := (Array.getElem?_eq_some_iff.1 h1).1
  have x0 : w.cell? ⟨r, 0, none⟩ = some (.slice a ws.length c) := by simp [World.cell?, h1]
  have x1 : w.cell? ⟨r, 1, none⟩ = some (.int .i64 (bh : Int)) := by simp [World.cell?, h1]
  cases ws with
  | nil =>
    have HR : Hid (RB Z w r ([], bh)) := ⟨a, c, h1, h2, h3, h4⟩
    have y1 := Lib.cell?_alloc_some (.cells #[.string ⟨#[]⟩, .int .i64 0] 83) x1
    have y0 := Lib.cell?_alloc_some (.cells #[.string ⟨#[]⟩, .int .i64 0] 83) x0
    have HC := wrong_any (w.alloc (.cells #[.string ⟨#[]⟩, .int .i64 0] 83)) bh 40
    have HB : Hid (Go.RowKit.Below w.heap.size w (w.alloc (.cells #[.string ⟨#[]⟩, .int .i64 0] 83))) := bel_al _ _
    clear h1 h2 h3 h4 hs
    simp only [List.length_nil] at x0 y0
    go_enter Tryz.func42, Tryz.ntmps42
    go_wp2_with fail
    refine HC.mono ?_
    rintro e w1 ⟨v, rfl, k1, k2⟩
    have hw1 : WB w1 w.heap.size (.string ⟨#[]⟩) (.int .i64 0) := (k2.block w.heap.size (by simp)).trans (heap_alloc_new _ _ rfl)
    have HE : Hid (ErrAt ((w1.setCell ⟨w.heap.size, 0, none⟩ (.string ⟨#[]⟩)).setCell ⟨w.heap.size, 1, none⟩ (.int .i64 0)) v 0 bh 40) := (k1.word hw1).word (heap_setCell_same w1 w.heap.size 0 _ _ _ hw1)
    have HB1 : Hid (Go.RowKit.Below w.heap.size w ((w1.setCell ⟨w.heap.size, 0, none⟩ (.string ⟨#[]⟩)).setCell ⟨w.heap.size, 1, none⟩ (.int .i64 0))) := ((HB.out.trans (k2.mono HB.out.size)).trans (below_setC _ _ (Nat.le_refl _))).trans (below_setC _ _ (Nat.le_refl _))
    obtain ⟨z0, z1, f0, f1⟩ := hw1.cells
    have hld := load_word (hw1.set (.string ⟨#[]⟩) (.int .i64 0))
    clear hw1 k1 k2 HC y0 y1 x0 x1
    go_wp2_with fail
    refine bodyPost_ret (v := .tuple #[.agg #[.string ⟨#[]⟩, .int .i64 0], v]) ?_ rfl ?_
    · simp [results, Tryz.results42, asAddr, hld]
    · exact .inl ⟨v, bh, rfl, rfl, HE.out, HR.out.kept HB1.out, Bx.bel HB1.out⟩
  | cons x ws =>
    obtain ⟨hs1, hs2⟩ := hs
    have hxs := hs1 x (List.mem_cons_self ..)
    simp only [List.length_cons] at x0 h4 hs2
    rcases h2 with h2 | ⟨b, off, rfl, hc⟩
    · simp [wcs] at h2
    have hbr : b ≠ r := (h3 _ rfl (by simp)).1
    have hbz : Z b := (h3 _ rfl (by simp)).2
    have z0 : w.cell? ⟨b, off, none⟩ = some (.string (S x.1)) := hc 0 _ rfl
    have z1 : w.cell? ⟨b, off + 1, none⟩ = some (.int .i64 (x.2 : Int)) := hc 1 _ rfl
    have hbl : b < w.heap.size := cell_lt z0
    have y0 := Lib.cell?_alloc_some (.cells #[.string ⟨#[]⟩, .int .i64 0] 83) x0
    have y1 := Lib.cell?_alloc_some (.cells #[.string ⟨#[]⟩, .int .i64 0] 83) x1
    have u0 := Lib.cell?_alloc_some (.cells #[.string ⟨#[]⟩, .int .i64 0] 83) z0
    have u1 := Lib.cell?_alloc_some (.cells #[.string ⟨#[]⟩, .int .i64 0] 83) z1
    have HB2 : Hid (Go.RowKit.Below w.heap.size w ((w.alloc (.cells #[.string ⟨#[]⟩, .int .i64 0] 83)).alloc (.cells #[.string (S x.1), .int .i64 (x.2 : Int)] 83))) := ((Below.refl _ _).alloc (Nat.le_refl _) _).alloc (by simp) _
    have HW2 : Hid (WB ((w.alloc (.cells #[.string ⟨#[]⟩, .int .i64 0] 83)).alloc (.cells #[.string (S x.1), .int .i64 (x.2 : Int)] 83)) w.heap.size (.string ⟨#[]⟩) (.int .i64 0)) := (heap_alloc_old _ _ (by simp)).trans (heap_alloc_new _ _ rfl)
    have HW4 : Hid (WB ((w.alloc (.cells #[.string ⟨#[]⟩, .int .i64 0] 83)).alloc (.cells #[.string (S x.1), .int .i64 (x.2 : Int)] 83)) (w.heap.size + 1) (.string (S x.1)) (.int .i64 (x.2 : Int))) := heap_alloc_new _ _ (by simp)
    have H1 : Hid (w.heap[r]? = some (.cells #[.slice (some ⟨b, off, none⟩) (ws.length + 1) c, .int .i64 (bh : Int)] 86 (0, 0))) := h1
    have HC : Hid (∀ j u, (wcs (x :: ws))[j]? = some u → w.cell? ⟨b, off + j, none⟩ = some u) := hc
    have hsz : (S x.1).size = x.1.length := S_size x.1
    clear h1 hc h3 hs1
    go_enter Tryz.func42, Tryz.ntmps42
    go_upto_region 4 with fail
    generalize (w.alloc (.cells #[.string ⟨#[]⟩, .int .i64 0] 83)).alloc (.cells #[.string (S x.1), .int .i64 (x.2 : Int)] 83) = W2 at *
    have HR2 : Hid (W2.heap[r]? = some (.cells #[.slice (some ⟨b, off, none⟩) (ws.length + 1) c, .int .i64 (bh : Int)] 86 (0, 0))) := (HB2.out.block r hr).trans H1.out
    clear x0 x1 z0 z1 y0 y1 u0 u1
    have hn1 : r ≠ w.heap.size := by omega
    have hn2 : r ≠ w.heap.size + 1 := by omega
    -- the reader's words
    have r0 : W2.cell? ⟨r, 0, none⟩ = some (.slice (some ⟨b, off, none⟩) (ws.length + 1) c) := by simp [World.cell?, HR2.out]
    have fr0 := frozen_of_row W2 r 0 _ _ HR2.out
    go_upto_region 5 with fail
    have HCa : Hid (∃ a', (if c = 1 then some ⟨b, off, none⟩ else some ⟨b, off + 2, none⟩ : Option Addr) = a' ∧ CellsAt w a' (wcs ws) ∧ ∀ ad, a' = some ad → ad.block = b) := by
      by_cases hc1 : c = 1
      · have hws : ws = [] := List.eq_nil_of_length_eq_zero (by omega)
        rw [if_pos hc1]
        exact ⟨_, rfl, .inl (by rw [hws]; rfl), fun ad e => by cases e; rfl⟩
      · rw [if_neg hc1]
        refine ⟨_, rfl, .inr ⟨b, off + 2, rfl, fun j u hu => ?_⟩, fun ad e => by cases e; rfl⟩
        have := HC.out (j + 2) u hu
        rw [show off + (j + 2) = off + 2 + j by omega] at this
        exact this
    obtain ⟨a', ha, hca, hab⟩ := HCa.out
    rw [ha]
    have HA : Hid (CellsAt w a' (wcs ws) ∧ ∀ ad, a' = some ad → ad.block = b) := ⟨hca, hab⟩
    clear ha hca hab HCa HC r0 fr0
    have HR3 : Hid ((W2.setCell ⟨r, 0, none⟩ (.slice a' ws.length (c - 1))).heap[r]? = some (.cells #[.slice a' ws.length (c - 1), .int .i64 (bh : Int)] 86 (0, 0))) := heap_setCell_same W2 r 0 _ _ _ HR2.out
    have HX3 : Hid (WB (W2.setCell ⟨r, 0, none⟩ (.slice a' ws.length (c - 1))) w.heap.size (.string ⟨#[]⟩) (.int .i64 0)) := (heap_setCell_other _ _ _ _ (fun e => hn1 e.symm)).trans HW2.out
    have HY3 : Hid (WB (W2.setCell ⟨r, 0, none⟩ (.slice a' ws.length (c - 1))) (w.heap.size + 1) (.string (S x.1)) (.int .i64 (x.2 : Int))) := (heap_setCell_other _ _ _ _ (fun e => hn2 e.symm)).trans HW4.out
    have HBx3 : Hid (Bx r w (W2.setCell ⟨r, 0, none⟩ (.slice a' ws.length (c - 1)))) := (Bx.bel HB2.out).trans (Bx.set r W2 0 _)
    clear HR2 HW2 HW4 HB2
    generalize W2.setCell ⟨r, 0, none⟩ (.slice a' ws.length (c - 1)) = W3 at *
    have r1 : W3.cell? ⟨r, 1, none⟩ = some (.int .i64 (bh : Int)) := by simp [World.cell?, HR3.out]
    have fr1 := frozen_of_row W3 r 1 _ _ HR3.out
    obtain ⟨q0, q1, _, _⟩ := HY3.out.cells
    go_upto_region 6 with fail
    have HR4 : Hid ((W3.setCell ⟨r, 1, none⟩ (.int .i64 ((x.2 : Int) + (x.1.length : Int)))).heap[r]? = some (.cells #[.slice a' ws.length (c - 1), .int .i64 ((x.2 : Int) + (x.1.length : Int))] 86 (0, 0))) := heap_setCell_same W3 r 1 _ _ _ HR3.out
    have HX4 : Hid (WB (W3.setCell ⟨r, 1, none⟩ (.int .i64 ((x.2 : Int) + (x.1.length : Int)))) w.heap.size (.string ⟨#[]⟩) (.int .i64 0)) := (heap_setCell_other _ _ _ _ (fun e => hn1 e.symm)).trans HX3.out
    have HY4 : Hid (WB (W3.setCell ⟨r, 1, none⟩ (.int .i64 ((x.2 : Int) + (x.1.length : Int)))) (w.heap.size + 1) (.string (S x.1)) (.int .i64 (x.2 : Int))) := (heap_setCell_other _ _ _ _ (fun e => hn2 e.symm)).trans HY3.out
    have HBx4 : Hid (Bx r w (W3.setCell ⟨r, 1, none⟩ (.int .i64 ((x.2 : Int) + (x.1.length : Int))))) := HBx3.out.trans (Bx.set r W3 1 _)
    clear HR3 HX3 HY3 HBx3 r1 fr1 q0 q1
    generalize W3.setCell ⟨r, 1, none⟩ (.int .i64 ((x.2 : Int) + (x.1.length : Int))) = W4 at *
    obtain ⟨q0, q1, _, _⟩ := HY4.out.cells
    obtain ⟨p0, p1, fp0, fp1⟩ := HX4.out.cells
    have hld := load_word (HX4.out.set (.string (S x.1)) (.int .i64 (x.2 : Int)))
    have HE : Hid (RB Z ((W4.setCell ⟨w.heap.size, 0, none⟩ (.string (S x.1))).setCell ⟨w.heap.size, 1, none⟩ (.int .i64 (x.2 : Int))) r (ws, x.2 + x.1.length) ∧ Bx r w ((W4.setCell ⟨w.heap.size, 0, none⟩ (.string (S x.1))).setCell ⟨w.heap.size, 1, none⟩ (.int .i64 (x.2 : Int)))) := by
      have hb : Bx r w ((W4.setCell ⟨w.heap.size, 0, none⟩ (.string (S x.1))).setCell ⟨w.heap.size, 1, none⟩ (.int .i64 (x.2 : Int))) := ⟨HBx4.out.os, HBx4.out.tape, HBx4.out.output, by simpa using HBx4.out.size, fun k hk hkr => by
        rw [heap_setCell_other _ _ _ _ (by show k ≠ w.heap.size; omega), heap_setCell_other _ _ _ _ (by show k ≠ w.heap.size; omega)]
        exact HBx4.out.block k hk hkr⟩
      refine ⟨⟨a', c - 1, ?_, HA.out.1.bx hb (fun ad e _ => by rw [HA.out.2 ad e]; exact hbr), fun ad e _ => by rw [HA.out.2 ad e]; exact ⟨hbr, hbz⟩, by show ws.length ≤ c - 1; omega⟩, hb⟩
      rw [heap_setCell_other _ _ _ _ hn1, heap_setCell_other _ _ _ _ hn1, HR4.out]
      rw [show ((x.2 + x.1.length : Nat) : Int) = (x.2 : Int) + (x.1.length : Int) by omega]
    go_wp2_with fail
    refine bodyPost_ret (v := .tuple #[.agg #[.string (S x.1), .int .i64 (x.2 : Int)], .nilIface]) ?_ rfl ?_
    · simp [results, Tryz.results42, asAddr, hld]
    · exact .inr ⟨x, _, rfl, rfl, HE.out.1, HE.out.2⟩
end Go.Proofs.YtiiplikmoodfnaaGreatDoor
/-
  A LINE's READER: must, end.
-/
namespace Go.Proofs.YtiiplikmoodfnaaGreatDoor
open Go.RowKit Go.Sort

theorem S_toList (l : List UInt8) : (S l).toList = l := by rw [byteList]; simp [S]
theorem next_inv {ws ws' : List Wd} {bh bh' : Nat} {x : Wd} (h : rNext (ws, bh) = .ok (x, (ws', bh'))) : ws = x :: ws' ∧ bh' = x.2 + x.1.length := by
  cases ws with
  | nil => cases h
  | cons y ws => simp only [rNext, Except.ok.injEq, Prod.mk.injEq] at h; obtain ⟨rfl, rfl, rfl⟩ := h; exact ⟨rfl, rfl⟩
/-- must's answers -/
def MustPost (Z : Nat → Prop) (W : World) (r : Nat) (t : List UInt8) (rd : Rd) (e : Ending) (w' : World) : Prop :=
  (∃ v col n, rMust t rd = .error (col, n) ∧ e = .returned v ∧ ErrAt w' v 0 col n ∧ Bx r W w') ∨
  (∃ rd', rMust t rd = .ok rd' ∧ e = .returned .nilIface ∧ RB Z w' r rd' ∧ Bx r W w')
set_option maxRecDepth 100000 in
set_option maxHeartbeats 1000000 in
theorem must_any {Z : Nat → Prop} (w : World) (r : Nat) (t : List UInt8) (rd : Rd) (h : RB Z w r rd) (hs : SmallW rd.1) : Calls Tryz.prog 51 #[.pointer (some ⟨r, 0, none⟩), .string (S t)] w fun e w' => MustPost Z w r t rd e w' := by
  have HC := next_any w r rd h hs
  clear h hs
  go_enter Tryz.func51, Tryz.ntmps51
  go_wp2_with fail
  refine HC.mono ?_
  rintro e w1 (⟨v, col, h1, rfl, h3, h4, h5⟩ | ⟨x, rd', h1, rfl, h3, h4⟩)
  · obtain ⟨b, rfl, hb⟩ := h3
    have HE : Hid (MustPost Z w r t rd (.returned (.iface 63 (.pointer (some ⟨b, 0, none⟩)))) (w1.alloc (.cells #[.string ⟨#[]⟩, .int .i64 0] 83))) := .inl ⟨_, col, 40, by unfold rMust; rw [h1], rfl, ErrAt.kept ⟨b, rfl, hb⟩ (bel_al _ _), h5.trans (Bx.bel (bel_al _ _))⟩
    clear h1 h4 h5 hb
    go_wp2_with fail
    go_ret
    exact HE.out
  · by_cases hx : x.1 = t
    · have HE : Hid (MustPost Z w r t rd (.returned .nilIface) (w1.alloc (.cells #[.string (S x.1), .int .i64 (x.2 : Int)] 83))) := .inr ⟨rd', by unfold rMust; rw [h1]; exact if_pos hx, rfl, h3.kept (bel_al _ _), h4.trans (Bx.bel (bel_al _ _))⟩
      subst hx
      clear h1 h3 h4
      go_wp2_with fail
      go_ret
      exact HE.out
    · have hne : ((S x.1).toList == (S t).toList) = false := by
        rw [S_toList, S_toList]; simpa using hx
      have HW : Hid (WB (w1.alloc (.cells #[.string (S x.1), .int .i64 (x.2 : Int)] 83)) w1.heap.size (.string (S x.1)) (.int .i64 (x.2 : Int))) := heap_alloc_new _ _ rfl
      have HW1 := wrong_any (w1.alloc (.cells #[.string (S x.1), .int .i64 (x.2 : Int)] 83)) x.2 40
      have H1 : Hid (rMust t rd = .error (x.2, 40)) := by show _ = _; unfold rMust; rw [h1]; exact if_neg hx
      have HB : Hid (Bx r w (w1.alloc (.cells #[.string (S x.1), .int .i64 (x.2 : Int)] 83))) := h4.trans (Bx.bel (bel_al _ _))
      clear h1 h3 h4 hx
      go_wp2_with fail
      refine HW1.mono ?_
      rintro e w2 ⟨v, rfl, k1, k2⟩
      have HE : Hid (MustPost Z w r t rd (.returned v) w2) := .inl ⟨v, x.2, 40, H1.out, rfl, k1, HB.out.trans (Bx.bel k2)⟩
      clear k1 k2 HW1
      go_wp2_with fail
      go_ret
      exact HE.out
/-- end's answers -/
def EndPost (W : World) (rd : Rd) (e : Ending) (w' : World) : Prop :=
  (∃ v col n, rEnd rd = some (col, n) ∧ e = .returned v ∧ ErrAt w' v 0 col n ∧ Go.RowKit.Below W.heap.size W w') ∨ (rEnd rd = none ∧ e = .returned .nilIface ∧ w' = W)
set_option maxRecDepth 100000 in
set_option maxHeartbeats 1000000 in
theorem end_any {Z : Nat → Prop} (w : World) (r : Nat) (rd : Rd) (h : RB Z w r rd) (hs : SmallW rd.1) : Calls Tryz.prog 43 #[.pointer (some ⟨r, 0, none⟩)] w fun e w' => EndPost w rd e w' := by
  obtain ⟨ws, bh⟩ := rd
  obtain ⟨a, c, h1, h2, h3, h4⟩ := h
  have hs2 := hs.2
  have x0 : w.cell? ⟨r, 0, none⟩ = some (.slice a ws.length c) := by simp [World.cell?, h1]
  cases ws with
  | nil =>
    simp only [List.length_nil] at x0
    clear h1 h2 h3 h4 hs
    go_enter Tryz.func43, Tryz.ntmps43
    go_wp2
    go_ret
    exact .inr ⟨rfl, rfl, rfl⟩
  | cons x ws =>
    rcases h2 with h2 | ⟨b, off, rfl, hc⟩
    · simp [wcs] at h2
    simp only [List.length_cons] at x0 hs2
    have z1 : w.cell? ⟨b, off + 1, none⟩ = some (.int .i64 (x.2 : Int)) := hc 1 _ rfl
    have HC := wrong_any w x.2 40
    clear h1 hc h3 h4 hs
    go_enter Tryz.func43, Tryz.ntmps43
    go_wp2_with fail
    refine HC.mono ?_
    rintro e w1 ⟨v, rfl, k1, k2⟩
    have HE : Hid (EndPost w (x :: ws, bh) (.returned v) w1) := .inl ⟨v, x.2, 40, rfl, rfl, k1, k2⟩
    clear k1 k2 HC
    go_wp2_with fail
    go_ret
    exact HE.out
end Go.Proofs.YtiiplikmoodfnaaGreatDoor
/-
  THE WALK OF codec.Number (beside ALBase).
-/
namespace Go.Proofs.YtiiplikmoodfnaaGreatDoor
open Go.RowKit Go.Shelf

/-- what the library's variables hold -/
def NumVars (w : World) : Prop :=
  Lib.TabIs Tryz.prog w "internal/strconv.uint64pow10" .u64 Lib.pow10Tab ∧ (∃ tp p, w.var? Tryz.prog "strconv.ErrSyntax" = some #[.iface tp p]) ∧ (∃ tp p, w.var? Tryz.prog "strconv.ErrRange" = some #[.iface tp p])

theorem gBad : Tryz.prog.globalNamed "strconv.ErrSyntax" = some 3 := by kernel_rfl
theorem gRange : Tryz.prog.globalNamed "strconv.ErrRange" = some 4 := by kernel_rfl
theorem NumVars.kept {w w1 : World} (h : NumVars w) (hb : Below w.heap.size w w1) : NumVars w1 := by
  obtain ⟨h1, ⟨tp, p, h2⟩, tq, q, h3⟩ := h
  exact ⟨var_kept gPow h1 hb, ⟨tp, p, var_kept gBad h2 hb⟩, tq, q, var_kept gRange h3 hb⟩

theorem digits_anyN (w : World) (n : Int) (h0 : -9223372036854775808 ≤ n) (h1 : n ≤ 9223372036854775807) (hv : NumVars w) :
    Calls Tryz.prog 81 #[.int .i64 n] w fun e w' => e = .returned (.string ⟨(Lib.itoa n).toArray⟩) ∧ Below w.heap.size w w' := by
  have HV : Hid (NumVars w) := hv
  clear hv
  go_enter Tryz.func81, Tryz.ntmps81
  go_wp2_with fail
  refine (formatInt_any w n h0 h1 HV.out.1).mono ?_
  rintro e w1 ⟨rfl, hb⟩
  go_wp2
  go_ret
  exact ⟨rfl, hb⟩

theorem parse_ok (w : World) (s : ByteArray) (hs : s.size ≤ 9223372036854775806) (v : Int) (h : Lib.parseIntB 64 s.data.toList = .ok v) :
    Calls Tryz.prog 80 #[.string s, .int .i64 10, .int .i64 64] w fun e w' => e = .returned (.tuple #[.int .i64 v, .nilIface]) ∧ Below w.heap.size w w' := by
  refine (show Calls Tryz.prog 80 #[.string s, .int .i64 10, .int .i64 64] w _ from Any.strconv_ParseInt_10_at64_ok laysC174 s hs v h w).mono ?_
  rintro e w' ⟨rfl, h1⟩
  refine ⟨rfl, ?_⟩
  rcases h1 with rfl | ⟨t, rfl⟩
  · exact Below.refl _ _
  · exact Lib.bytesWorld_below w _ t
theorem parse_bad (w : World) (s : ByteArray) (hs : s.size ≤ 281474976710656) (h : ∀ v, Lib.parseIntB 64 s.data.toList ≠ .ok v) (hv : NumVars w) :
    Calls Tryz.prog 80 #[.string s, .int .i64 10, .int .i64 64] w fun e w' => ∃ x N, e = .returned (.tuple #[.int .i64 x, .iface 186 (.pointer (some ⟨N, 0, none⟩))]) ∧ Below w.heap.size w w' := by
  obtain ⟨_, ⟨tp, p, h2⟩, tq, q, h3⟩ := hv
  cases hh : Lib.parseIntB 64 s.data.toList with
  | ok v => exact absurd hh (h v)
  | range =>
    refine (show Calls Tryz.prog 80 #[.string s, .int .i64 10, .int .i64 64] w _ from Any.strconv_ParseInt_10_at64_range_var laysC174 s hs hh tq q w h3).mono ?_
    rintro e w' ⟨N, rfl, _, _, hb⟩
    exact ⟨_, N, rfl, hb⟩
  | _ =>
    refine (show Calls Tryz.prog 80 #[.string s, .int .i64 10, .int .i64 64] w _ from Any.strconv_ParseInt_10_at64_syntax_var laysC174 s hs hh tp p w h2).mono ?_
    rintro e w' ⟨N, rfl, _, _, hb⟩
    exact ⟨_, N, rfl, hb⟩

set_option maxHeartbeats 400000 in
theorem number_any (w : World) (s : ByteArray) (hs : s.size ≤ 281474976710656) (hv : NumVars w) :
    Calls Tryz.prog 73 #[.string s] w fun e w' => e = .returned (.tuple #[.int .i64 (Dec.num1 s.data.toList).1, .bool (Dec.num1 s.data.toList).2]) ∧ Below w.heap.size w w' := by
  have HV : Hid (NumVars w) := hv
  clear hv
  by_cases hx : ∃ v, Lib.parseIntB 64 s.data.toList = .ok v
  · obtain ⟨v, hx⟩ := hx
    have HX : Hid (Lib.parseIntB 64 s.data.toList = .ok v) := hx
    have vb := Dec.parse_bounds hx
    clear hx
    go_enter Tryz.func73, Tryz.ntmps73
    go_wp2_with fail
    refine (parse_ok w s (by omega) v HX.out).mono ?_
    rintro e w1 ⟨rfl, hb1⟩
    have HV1 : Hid (NumVars w1) := HV.out.kept hb1
    have HB1 : Hid (Below w.heap.size w w1) := hb1
    clear hb1
    go_wp2_with fail
    refine (digits_anyN w1 v vb.1 vb.2 HV1.out).mono ?_
    rintro e w2 ⟨rfl, hb2⟩
    have HB2 : Hid (Below w.heap.size w w2) := HB1.out.trans (hb2.mono HB1.out.size)
    clear hb2
    by_cases hE : Lib.itoa v = s.data.toList
    · have hB : (!Lib.itoa v == s.toList) = false := by rw [byteList s]; simp [hE]
      have HE : Hid (Dec.num1 s.data.toList = (v, true)) := by unfold Dec.num1; rw [Hid, HX.out]; simp [hE]
      clear hE
      go_wp2
      go_ret2
      exact ⟨by rw [HE.out]; rfl, HB2.out⟩
    · have hB : (!Lib.itoa v == s.toList) = true := by rw [byteList s]; simp [hE]
      have HE : Hid (Dec.num1 s.data.toList = (0, false)) := by unfold Dec.num1; rw [Hid, HX.out]; simp [hE]
      clear hE
      go_wp2
      go_ret2
      exact ⟨by rw [HE.out]; rfl, HB2.out⟩
  · have HX : Hid (∀ v, Lib.parseIntB 64 s.data.toList ≠ .ok v) := fun v h => hx ⟨v, h⟩
    have HE : Hid (Dec.num1 s.data.toList = (0, false)) := by
      unfold Dec.num1; rw [Hid]
      split
      · rename_i v h; exact absurd h (HX.out v)
      · rfl
    clear hx
    go_enter Tryz.func73, Tryz.ntmps73
    go_wp2_with fail
    refine (parse_bad w s (by omega) HX.out HV.out).mono ?_
    rintro e w1 ⟨x, N, rfl, hb1⟩
    go_wp2
    go_ret2
    exact ⟨by rw [HE.out]; rfl, hb1⟩

end Go.Proofs.YtiiplikmoodfnaaGreatDoor
/-
  A LINE's READER: number.
-/
namespace Go.Proofs.YtiiplikmoodfnaaGreatDoor
open Go.RowKit Go.Sort

theorem var_keptN {C : Nat} {w w1 : World} {n : String} {cs : Array Value} {g : Nat} (hg : Tryz.prog.globalNamed n = some g) (h : w.var? Tryz.prog n = some cs) (hb : Go.RowKit.Below C w w1) (hC : g < C) : w1.var? Tryz.prog n = some cs := var?_below hb hg hC h
theorem NumVars.bx {r : Nat} {w w1 : World} (h : NumVars w) (hb : Bx r w w1) (hr : 8 ≤ r) (hs : 8 ≤ w.heap.size) : NumVars w1 := by
  have hb' : Go.RowKit.Below 8 w w1 := ⟨hb.os, hb.tape, hb.output, hb.size, fun k hk => hb.block k (by omega) (by omega)⟩
  obtain ⟨h1, ⟨tp, p, h2⟩, tq, q, h3⟩ := h
  exact ⟨var_keptN gPow h1 hb' (by decide), ⟨tp, p, var_keptN gBad h2 hb' (by decide)⟩, tq, q, var_keptN gRange h3 hb' (by decide)⟩
/-- number's answers -/
def NumPost (Z : Nat → Prop) (W : World) (r : Nat) (rd : Rd) (e : Ending) (w' : World) : Prop :=
  (∃ v col n, rNum rd = .error (col, n) ∧ e = .returned (.tuple #[.int .i64 0, v]) ∧ ErrAt w' v 0 col n ∧ Bx r W w') ∨
  (∃ z rd', rNum rd = .ok (z, rd') ∧ e = .returned (.tuple #[.int .i64 z, .nilIface]) ∧ RB Z w' r rd' ∧ Bx r W w')
set_option maxRecDepth 100000 in
set_option maxHeartbeats 1000000 in
theorem number_rd {Z : Nat → Prop} (w : World) (r : Nat) (rd : Rd) (h : RB Z w r rd) (hs : SmallW rd.1) (hv : NumVars w) (hr : 8 ≤ r) (hz : 8 ≤ w.heap.size) : Calls Tryz.prog 52 #[.pointer (some ⟨r, 0, none⟩)] w fun e w' => NumPost Z w r rd e w' := by
  have HC := next_any w r rd h hs
  have HV : Hid (∀ W, Bx r w W → NumVars W) := fun W hb => hv.bx hb hr hz
  have HSm : Hid (∀ x rd', rNext rd = .ok (x, rd') → x.1.length ≤ 1000000) := fun x rd' hx => by
    obtain ⟨ws, bh⟩ := rd
    obtain ⟨ws', bh'⟩ := rd'
    obtain ⟨rfl, _⟩ := next_inv hx
    have := hs.1 x (List.mem_cons_self ..)
    omega
  clear h hs hv
  go_enter Tryz.func52, Tryz.ntmps52
  go_wp2_with fail
  refine HC.mono ?_
  rintro e w1 (⟨v, col, h1, rfl, h3, h4, h5⟩ | ⟨x, rd', h1, rfl, h3, h4⟩)
  · obtain ⟨b, rfl, hb⟩ := h3
    have HE : Hid (NumPost Z w r rd (.returned (.tuple #[.int .i64 0, .iface 63 (.pointer (some ⟨b, 0, none⟩))])) (w1.alloc (.cells #[.string ⟨#[]⟩, .int .i64 0] 83))) := .inl ⟨_, col, 40, by unfold rNum; rw [h1], rfl, ErrAt.kept ⟨b, rfl, hb⟩ (bel_al _ _), h5.trans (Bx.bel (bel_al _ _))⟩
    clear h1 h4 h5 hb
    go_wp2_with fail
    go_ret2
    exact HE.out
  · have HB : Hid (Bx r w (w1.alloc (.cells #[.string (S x.1), .int .i64 (x.2 : Int)] 83))) := h4.trans (Bx.bel (bel_al _ _))
    have hsx := HSm.out x rd' h1
    have HW : Hid (WB (w1.alloc (.cells #[.string (S x.1), .int .i64 (x.2 : Int)] 83)) w1.heap.size (.string (S x.1)) (.int .i64 (x.2 : Int))) := heap_alloc_new _ _ rfl
    have HN := number_any (w1.alloc (.cells #[.string (S x.1), .int .i64 (x.2 : Int)] 83)) (S x.1) (by rw [S_size]; omega) (HV.out _ HB.out)
    rw [show (S x.1).data.toList = x.1 by simp [S]] at HN
    have HRb : Hid (RB Z (w1.alloc (.cells #[.string (S x.1), .int .i64 (x.2 : Int)] 83)) r rd') := h3.kept (bel_al _ _)
    have H1 : Hid (rNext rd = .ok (x, rd')) := h1
    clear h1 h3 h4
    obtain ⟨z, hzz⟩ : ∃ z, z = (Dec.num1 x.1).1 := ⟨_, rfl⟩
    obtain ⟨b, hbb⟩ : ∃ b, b = (Dec.num1 x.1).2 := ⟨_, rfl⟩
    rw [← hzz, ← hbb] at HN
    go_wp2_with fail
    refine HN.mono ?_
    rintro e w2 ⟨rfl, k2⟩
    have HB2 : Hid (Bx r w w2) := HB.out.trans (Bx.bel k2)
    have HW2 : Hid (WB w2 w1.heap.size (.string (S x.1)) (.int .i64 (x.2 : Int))) := (k2.block w1.heap.size (by simp)).trans HW.out
    cases b with
    | true =>
      have HE : Hid (NumPost Z w r rd (.returned (.tuple #[.int .i64 z, .nilIface])) w2) := .inr ⟨z, rd', by unfold rNum; rw [H1.out]; simp [← hbb, hzz], rfl, HRb.out.kept k2, HB2.out⟩
      clear k2 HN hzz hbb
      go_wp2_with fail
      go_ret2
      exact HE.out
    | false =>
      have HE1 : Hid (rNum rd = .error (x.2, 41)) := by show _ = _; unfold rNum; rw [H1.out]; simp [← hbb]
      obtain ⟨q0, q1, _, _⟩ := HW2.out.cells
      have HWr := wrong_any w2 x.2 41
      clear k2 HN hzz hbb
      go_wp2_with fail
      refine HWr.mono ?_
      rintro e w3 ⟨v, rfl, m1, m2⟩
      have HE : Hid (NumPost Z w r rd (.returned (.tuple #[.int .i64 0, v])) w3) := .inl ⟨v, x.2, 41, HE1.out, rfl, m1, HB2.out.trans (Bx.bel m2)⟩
      clear m1 m2 HWr
      go_wp2_with fail
      go_ret2
      exact HE.out
end Go.Proofs.YtiiplikmoodfnaaGreatDoor
/-
  THE ASSEMBLY's BOX: spot, program.
-/
namespace Go.Proofs.YtiiplikmoodfnaaGreatDoor
open Go.RowKit Go.Sort

/-- block B is an assembly: line, lib, names, isOpen, begun, labels, jumps -/
def AB (W : World) (B : Nat) (line : Nat) (vl vn : Value) (o : Bool) (b1 b2 : Nat) (vm vj : Value) : Prop := W.heap[B]? = some (.cells #[.int .i64 (line : Int), vl, vn, .bool o, .int .i64 (b1 : Int), .int .i64 (b2 : Int), vm, vj] 58 (0, 0))
section
variable {W W' : World} {B line b1 b2 : Nat} {vl vn vm vj : Value} {o : Bool}
theorem AB.cells (h : AB W B line vl vn o b1 b2 vm vj) : W.cell? ⟨B, 0, none⟩ = some (.int .i64 (line : Int)) ∧ W.cell? ⟨B, 1, none⟩ = some vl ∧ W.cell? ⟨B, 2, none⟩ = some vn ∧ W.cell? ⟨B, 3, none⟩ = some (.bool o) ∧ W.cell? ⟨B, 4, none⟩ = some (.int .i64 (b1 : Int)) ∧ W.cell? ⟨B, 5, none⟩ = some (.int .i64 (b2 : Int)) ∧ W.cell? ⟨B, 6, none⟩ = some vm ∧ W.cell? ⟨B, 7, none⟩ = some vj := by
  refine ⟨?_, ?_, ?_, ?_, ?_, ?_, ?_, ?_⟩ <;> simp [World.cell?, show W.heap[B]? = _ from h]
theorem AB.frozen (h : AB W B line vl vn o b1 b2 vm vj) (i : Nat) : W.frozen? ⟨B, i, none⟩ = false := frozen_of_row W B i _ _ h
theorem AB.lt (h : AB W B line vl vn o b1 b2 vm vj) : B < W.heap.size := (Array.getElem?_eq_some_iff.1 h).1
theorem AB.kept (h : AB W B line vl vn o b1 b2 vm vj) (hb : Go.RowKit.Below W.heap.size W W') : AB W' B line vl vn o b1 b2 vm vj := (hb.block B h.lt).trans h
end
/-- a place's box -/
def SB (W : World) (b : Nat) (u v : Value) : Prop := W.heap[b]? = some (.cells #[u, v] 54 (0, 0))
theorem load_spot {W : World} {b : Nat} {u v : Value} (h : SB W b u v) : (loadVar 54 ⟨b, 0, none⟩).run Tryz.prog W = .ok (.agg #[u, v]) W := by
  have q0 : W.cell? ⟨b, 0, none⟩ = some u := by simp [World.cell?, show W.heap[b]? = _ from h]
  have q1 : W.cell? ⟨b, 1, none⟩ = some v := by simp [World.cell?, show W.heap[b]? = _ from h]
  simp [go_sem, q0, q1]
set_option maxRecDepth 100000 in
theorem spot_any (w : World) (B line b1 b2 : Nat) (vl vn vm vj : Value) (o : Bool) (h : AB w B line vl vn o b1 b2 vm vj) (x : Wd) :
    Calls Tryz.prog 50 #[.pointer (some ⟨B, 0, none⟩), .agg #[.string (S x.1), .int .i64 (x.2 : Int)]] w fun e w' => e = .returned (.agg #[.int .i64 (line : Int), .int .i64 (x.2 : Int)]) ∧ Go.RowKit.Below w.heap.size w w' := by
  obtain ⟨x0, _⟩ := h.cells
  have hB := h.lt
  have HB2 : Hid (Go.RowKit.Below w.heap.size w ((w.alloc (.cells #[.string (S x.1), .int .i64 (x.2 : Int)] 83)).alloc (.cells #[.int .i64 0, .int .i64 0] 54))) := ((Below.refl _ _).alloc (Nat.le_refl _) _).alloc (by simp) _
  have HW : Hid (WB ((w.alloc (.cells #[.string (S x.1), .int .i64 (x.2 : Int)] 83)).alloc (.cells #[.int .i64 0, .int .i64 0] 54)) w.heap.size (.string (S x.1)) (.int .i64 (x.2 : Int))) := (heap_alloc_old _ _ (by simp)).trans (heap_alloc_new _ _ rfl)
  have HS : Hid (SB ((w.alloc (.cells #[.string (S x.1), .int .i64 (x.2 : Int)] 83)).alloc (.cells #[.int .i64 0, .int .i64 0] 54)) (w.heap.size + 1) (.int .i64 0) (.int .i64 0)) := heap_alloc_new _ _ (by simp)
  have HA : Hid (AB w B line vl vn o b1 b2 vm vj) := h
  clear h
  go_enter Tryz.func50, Tryz.ntmps50
  go_upto_region 1 with fail
  clear x0
  generalize (w.alloc (.cells #[.string (S x.1), .int .i64 (x.2 : Int)] 83)).alloc (.cells #[.int .i64 0, .int .i64 0] 54) = W2 at *
  obtain ⟨x0, _⟩ := (HA.out.kept HB2.out).cells
  obtain ⟨_, y1, _, _⟩ := HW.out.cells
  have z0 : W2.cell? ⟨w.heap.size + 1, 0, none⟩ = some (.int .i64 0) := by simp [World.cell?, show W2.heap[w.heap.size + 1]? = _ from HS.out]
  have z1 : W2.cell? ⟨w.heap.size + 1, 1, none⟩ = some (.int .i64 0) := by simp [World.cell?, show W2.heap[w.heap.size + 1]? = _ from HS.out]
  have f0 : W2.frozen? ⟨w.heap.size + 1, 0, none⟩ = false := frozen_of_row W2 _ 0 _ _ HS.out
  have f1 : W2.frozen? ⟨w.heap.size + 1, 1, none⟩ = false := frozen_of_row W2 _ 1 _ _ HS.out
  have hn : B ≠ w.heap.size + 1 := by omega
  have hn' : ¬ B = w.heap.size + 1 := hn
  have HE : Hid (SB (((W2.drew).setCell ⟨w.heap.size + 1, 0, none⟩ (.int .i64 (line : Int))).setCell ⟨w.heap.size + 1, 1, none⟩ (.int .i64 (x.2 : Int))) (w.heap.size + 1) (.int .i64 (line : Int)) (.int .i64 (x.2 : Int))) := heap_setCell_same _ _ 1 _ _ _ (heap_setCell_same W2.drew _ 0 _ _ _ HS.out)
  have HB3 : Hid (Go.RowKit.Below w.heap.size w (((W2.drew).setCell ⟨w.heap.size + 1, 0, none⟩ (.int .i64 (line : Int))).setCell ⟨w.heap.size + 1, 1, none⟩ (.int .i64 (x.2 : Int)))) := ((HB2.out.trans (((Grew.refl W2).drewN 1).below.mono HB2.out.size)).trans (below_setC _ _ (by show w.heap.size ≤ w.heap.size + 1; omega))).trans (below_setC _ _ (by show w.heap.size ≤ w.heap.size + 1; omega))
  go_region
  all_goals (
    go_wp2_with fail
    refine bodyPost_ret (v := .agg #[.int .i64 (line : Int), .int .i64 (x.2 : Int)]) ?_ rfl ?_
    · simp [results, Tryz.results50, asAddr]
      exact load_spot (W := ((W2.setCell ⟨w.heap.size + 1, 0, none⟩ (.int .i64 (line : Int))).setCell ⟨w.heap.size + 1, 1, none⟩ (.int .i64 (x.2 : Int))).drew) HE.out
    · exact ⟨rfl, HB3.out⟩)
end Go.Proofs.YtiiplikmoodfnaaGreatDoor
/-
  PROCEDURES IN MEMORY.
-/
namespace Go.Proofs.YtiiplikmoodfnaaGreatDoor
open Go.RowKit Go.Sort

/-- a procedure: its name, its program -/
structure Pr where
  name : ByteArray
  p : Nums
  ao : Option Addr
  n : Nat
  cap : Nat
  L : List K
def prc (x : Pr) : List Value := [.string x.name, .int .i64 x.p.args, .int .i64 x.p.reads, .int .i64 x.p.writes, .int .i64 x.p.locals, .slice x.ao x.n x.cap]
abbrev prv (x : Pr) : Value := .agg #[.string x.name, .int .i64 x.p.args, .int .i64 x.p.reads, .int .i64 x.p.writes, .int .i64 x.p.locals, .slice x.ao x.n x.cap]
def prcs : List Pr → List Value
  | [] => []
  | x :: Ps => prc x ++ prcs Ps
theorem prcs_length : ∀ Ps : List Pr, (prcs Ps).length = Ps.length * 6
  | [] => rfl
  | x :: Ps => by simp [prcs, prc, prcs_length Ps]; omega
def prD : Pr := ⟨⟨#[]⟩, ⟨0, 0, 0, 0⟩, none, 0, 0, []⟩
def pd (Ps : List Pr) (j : Nat) : Pr := Ps.getD j prD
theorem pd_mem {Ps : List Pr} {j : Nat} (h : j < Ps.length) : pd Ps j ∈ Ps := by
  simp [pd, List.getD_eq_getElem?_getD, List.getElem?_eq_getElem h]
theorem pd_take (Ps : List Pr) (j : Nat) (h : j < Ps.length) : Ps.take (j + 1) = Ps.take j ++ [pd Ps j] := by
  rw [List.take_succ_eq_append_getElem h]
  simp [pd, List.getD_eq_getElem?_getD, List.getElem?_eq_getElem h]
theorem pd_takeD (Ps : List Pr) (j k : Nat) (h : j < k) : pd (Ps.take k) j = pd Ps j := by
  simp [pd, List.getD_eq_getElem?_getD, h]
theorem prcs_at : ∀ (Ps : List Pr) (j i : Nat), j < Ps.length → i < 6 → (prcs Ps)[j * 6 + i]? = (prc (pd Ps j))[i]?
  | [], j, i, h, _ => by simp at h
  | x :: Ps, 0, i, _, hi => by
    have hl : (prc x).length = 6 := rfl
    simp only [prcs, pd, Nat.zero_mul, Nat.zero_add]
    rw [List.getElem?_append_left (by rw [hl]; exact hi)]; rfl
  | x :: Ps, j + 1, i, h, hi => by
    have hl : (prc x).length = 6 := rfl
    have ih := prcs_at Ps j i (by simp at h; omega) hi
    simp only [prcs]
    rw [List.getElem?_append_right (by rw [hl]; omega), hl, show (j + 1) * 6 + i - 6 = j * 6 + i by omega, ih]
    simp [pd]
/-- WHERE PROCEDURES LIE -/
def ProcsAt (W : World) (ao : Option Addr) (Ps : List Pr) : Prop :=
  Ps = [] ∨ ∃ b off, ao = some ⟨b, off, none⟩ ∧ ∀ j u, (prcs Ps)[j]? = some u → W.cell? ⟨b, off + j, none⟩ = some u
theorem ProcsAt.get {W : World} {ao : Option Addr} {Ps : List Pr} (h : ProcsAt W ao Ps) (j : Nat) (hj : j < Ps.length) : ∃ b off, ao = some ⟨b, off, none⟩ ∧ W.cell? ⟨b, off + j * 6, none⟩ = some (.string (pd Ps j).name) ∧
    W.cell? ⟨b, off + j * 6 + 1, none⟩ = some (.int .i64 (pd Ps j).p.args) ∧ W.cell? ⟨b, off + j * 6 + 2, none⟩ = some (.int .i64 (pd Ps j).p.reads) ∧ W.cell? ⟨b, off + j * 6 + 3, none⟩ = some (.int .i64 (pd Ps j).p.writes) ∧
    W.cell? ⟨b, off + j * 6 + 4, none⟩ = some (.int .i64 (pd Ps j).p.locals) ∧ W.cell? ⟨b, off + j * 6 + 5, none⟩ = some (.slice (pd Ps j).ao (pd Ps j).n (pd Ps j).cap) := by
  rcases h with rfl | ⟨b, off, rfl, hc⟩
  · simp at hj
  · refine ⟨b, off, rfl, ?_, ?_, ?_, ?_, ?_, ?_⟩
    · exact hc (j * 6) _ (prcs_at Ps j 0 hj (by omega))
    · exact hc (j * 6 + 1) _ (prcs_at Ps j 1 hj (by omega))
    · exact hc (j * 6 + 2) _ (prcs_at Ps j 2 hj (by omega))
    · exact hc (j * 6 + 3) _ (prcs_at Ps j 3 hj (by omega))
    · exact hc (j * 6 + 4) _ (prcs_at Ps j 4 hj (by omega))
    · exact hc (j * 6 + 5) _ (prcs_at Ps j 5 hj (by omega))
theorem ProcsAt.lt {W : World} {ao : Option Addr} {Ps : List Pr} (h : ProcsAt W ao Ps) : ∀ a, Ps ≠ [] → ao = some a → a.block < W.heap.size := by
  intro a hne e
  have h0 : 0 < Ps.length := by cases Ps with | nil => exact absurd rfl hne | cons _ _ => simp
  obtain ⟨b, off, e1, hc, _⟩ := h.get 0 h0
  rw [e1] at e
  cases e
  exact cell_lt hc
theorem ProcsAt.below {W W' : World} {ao : Option Addr} {Ps : List Pr} {B : Nat} (h : ProcsAt W ao Ps) (hb : Below B W W') (hlt : ∀ a, Ps ≠ [] → ao = some a → a.block < B) : ProcsAt W' ao Ps := by
  rcases h with rfl | ⟨b, off, rfl, hc⟩
  · exact .inl rfl
  · refine .inr ⟨b, off, rfl, fun j u hu => ?_⟩
    have hne : Ps ≠ [] := by intro e; rw [e] at hu; simp [prcs] at hu
    have h1 := hc j u hu
    simp only [World.cell?] at h1 ⊢
    rw [hb.block b (hlt _ hne rfl)]; exact h1
theorem ProcsAt.kept {W W' : World} {ao : Option Addr} {Ps : List Pr} (h : ProcsAt W ao Ps) (hb : Below W.heap.size W W') : ProcsAt W' ao Ps := h.below hb h.lt
theorem ProcsAt.grew {W W' : World} {ao : Option Addr} {Ps : List Pr} (h : ProcsAt W ao Ps) (hg : Grew W W') : ProcsAt W' ao Ps := h.kept hg.below
theorem prcs_append (A B : List Pr) : prcs (A ++ B) = prcs A ++ prcs B := by
  induction A with
  | nil => rfl
  | cons k A ih => simp [prcs, ih]
theorem ProcsAt.take {W : World} {ao : Option Addr} {Ps : List Pr} (h : ProcsAt W ao Ps) (k : Nat) : ProcsAt W ao (Ps.take k) := by
  rcases h with rfl | ⟨b, off, rfl, hc⟩
  · left; simp
  · right
    refine ⟨b, off, rfl, fun j u hu => hc j u ?_⟩
    have e : prcs Ps = prcs (Ps.take k) ++ prcs (Ps.drop k) := by rw [← prcs_append, List.take_append_drop]
    rw [e, List.getElem?_append_left (List.getElem?_eq_some_iff.1 hu).1]; exact hu
/-- what a procedure holds -/
structure PrOK (W : World) (x : Pr) : Prop where
  len : x.n = x.L.length
  ks : KeysAt W x.ao x.L
  nin : NIn x.p
  kin : ∀ k ∈ x.L, KIn k
  nil : x.ao = none → x.cap = 0
  str : x.name.size ≤ 140737488351232
  big : x.n * 16 ≤ 140737488351232
theorem PrOK.kept {W W' : World} {x : Pr} (h : PrOK W x) (hb : Below W.heap.size W W') : PrOK W' x := ⟨h.len, h.ks.kept hb, h.nin, h.kin, h.nil, h.str, h.big⟩
/-- A LIBRARY -/
structure LibAt (W : World) (ao : Option Addr) (Ps : List Pr) : Prop where
  at_ : ProcsAt W ao Ps
  ok : ∀ x ∈ Ps, PrOK W x
theorem LibAt.kept {W W' : World} {ao : Option Addr} {Ps : List Pr} (h : LibAt W ao Ps) (hb : Below W.heap.size W W') : LibAt W' ao Ps := ⟨h.at_.kept hb, fun x hx => (h.ok x hx).kept hb⟩

/-- the first that is not 0, and its place -/
def firstP (f : Nat → Int) : Nat → Nat × Int
  | 0 => (0, 0)
  | k + 1 => if (firstP f k).2 ≠ 0 then firstP f k else if f k ≠ 0 then (k, f k) else (0, 0)
theorem firstP_zero {f : Nat → Int} {k : Nat} (h : ∀ i, i < k → f i = 0) : firstP f k = (0, 0) := by
  induction k with
  | zero => rfl
  | succ k ih =>
    have e := ih (fun i hi => h i (by omega))
    simp only [firstP, e, h k (by omega)]; rfl
theorem firstP_stop {f : Nat → Int} {k n : Nat} (h : ∀ i, i < k → f i = 0) (hk : f k ≠ 0) (hn : k < n) : firstP f n = (k, f k) := by
  induction n with
  | zero => omega
  | succ n ih =>
    by_cases e : k = n
    · subst e; simp only [firstP, firstP_zero h]; rw [if_neg (by simp), if_pos hk]
    · have := ih (by omega)
      simp only [firstP, this]; rw [if_pos hk]
end Go.Proofs.YtiiplikmoodfnaaGreatDoor
