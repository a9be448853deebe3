import Derived.Test.YtmkomfbjgmgemaaGreatDoorJASplit
import Derived.Test.YtmkomfbjgmgemaaGreatDoorJLStr
/-
  A LINE's READER: wrongAt, wrong, next, must, end.
-/
namespace Go.Proofs.YtmkomfbjgmgemaaGreatDoor
open Go.RowKit Go.Sort

/-- what stays, but for block r -/
structure Bx (r : Nat) (W W' : World) : Prop where
  os : W'.os = W.os
  tape : W'.tape = W.tape
  output : W'.output = W.output
  size : W.heap.size ≤ W'.heap.size
  block : ∀ b, b < W.heap.size → b ≠ r → W'.heap[b]? = W.heap[b]?
theorem Bx.refl (r : Nat) (W : World) : Bx r W W := ⟨rfl, rfl, rfl, Nat.le_refl _, fun _ _ _ => rfl⟩
theorem Bx.trans {r : Nat} {a b c : World} (h : Bx r a b) (k : Bx r b c) : Bx r a c := ⟨k.os.trans h.os, k.tape.trans h.tape, k.output.trans h.output, Nat.le_trans h.size k.size, fun i hi hr => (k.block i (Nat.lt_of_lt_of_le hi h.size) hr).trans (h.block i hi hr)⟩
theorem Bx.bel {r : Nat} {a b : World} (h : Go.RowKit.Below a.heap.size a b) : Bx r a b := ⟨h.os, h.tape, h.output, h.size, fun i hi _ => h.block i hi⟩
theorem Bx.set (r : Nat) (W : World) (i : Nat) (v : Value) : Bx r W (W.setCell ⟨r, i, none⟩ v) := ⟨rfl, rfl, rfl, by simp, fun b _ hb => heap_setCell_other W ⟨r, i, none⟩ b v hb⟩
theorem below_setC {C : Nat} {W : World} (a : Addr) (v : Value) (hC : C ≤ a.block) : Go.RowKit.Below C W (W.setCell a v) := ⟨rfl, rfl, rfl, by simp, fun k hk => heap_setCell_other W a k v (by omega)⟩
/-- an error with its place -/
def ErrAt (W : World) (v : Value) (line col : Nat) (n : Int) : Prop := ∃ b, v = .iface 58 (.pointer (some ⟨b, 0, none⟩)) ∧ W.heap[b]? = some (.cells #[.int .i64 (line : Int), .int .i64 (col : Int), .iface 43 (.int .i64 n)] 62 (0, 0))
theorem ErrAt.kept {W W' : World} {v : Value} {line col : Nat} {n : Int} (h : ErrAt W v line col n) (hb : Go.RowKit.Below W.heap.size W W') : ErrAt W' v line col n := by
  obtain ⟨b, h1, h2⟩ := h
  exact ⟨b, h1, (hb.block b (Array.getElem?_eq_some_iff.1 h2).1).trans h2⟩
theorem wrongAt_any (w : World) (line col : Nat) (n : Int) : Calls Tryz.prog 15 #[.agg #[.int .i64 (line : Int), .int .i64 (col : Int)], .iface 43 (.int .i64 n)] w fun e w' => ∃ v, e = .returned v ∧ ErrAt w' v line col n ∧ Go.RowKit.Below w.heap.size w w' := by
  go_enter Tryz.func15, Tryz.ntmps15
  go_wp2
  go_ret
  exact ⟨_, rfl, ⟨_, rfl, heap_alloc_new _ _ (by simp)⟩, ((Below.refl _ _).alloc (Nat.le_refl _) _).alloc (by simp) _⟩
theorem wrong_any (w : World) (col : Nat) (n : Int) : Calls Tryz.prog 45 #[.int .i64 (col : Int), .int .i64 n] w fun e w' => ∃ v, e = .returned v ∧ ErrAt w' v 0 col n ∧ Go.RowKit.Below w.heap.size w w' := by
  have HC := wrongAt_any w 0 col n
  go_enter Tryz.func45, Tryz.ntmps45
  go_wp2_with fail
  refine HC.mono ?_
  rintro e w1 ⟨v, rfl, h1, h2⟩
  go_wp2_with fail
  go_ret
  exact ⟨v, rfl, h1, h2⟩
/-- block r is a reader -/
def RB (Z : Nat → Prop) (W : World) (r : Nat) (rd : Rd) : Prop := ∃ a c, W.heap[r]? = some (.cells #[.slice a rd.1.length c, .int .i64 (rd.2 : Int)] 79 (0, 0)) ∧ CellsAt W a (wcs rd.1) ∧ (∀ ad, a = some ad → rd.1 ≠ [] → ad.block ≠ r ∧ Z ad.block) ∧ rd.1.length ≤ c
def SmallW (ws : List Wd) : Prop := (∀ x ∈ ws, x.2 + x.1.length ≤ 1000000) ∧ ws.length ≤ 1000000
theorem CellsAt.bx {W W' : World} {r : Nat} {a : Option Addr} {xs : List Value} (h : CellsAt W a xs) (hb : Bx r W W') (hr : ∀ ad, a = some ad → xs ≠ [] → ad.block ≠ r) : CellsAt W' a xs := by
  rcases h with h | ⟨b, off, rfl, hc⟩
  · exact .inl h
  · by_cases hx : xs = []
    · exact .inl hx
    · refine .inr ⟨b, off, rfl, fun j u hu => ?_⟩
      have h1 := hc j u hu
      have h2 := hb.block b (cell_lt h1) (hr _ rfl hx)
      simp only [World.cell?] at h1 ⊢
      rw [h2]; exact h1
theorem RB.kept {Z : Nat → Prop} {W W' : World} {r : Nat} {rd : Rd} (h : RB Z W r rd) (hb : Go.RowKit.Below W.heap.size W W') : RB Z W' r rd := by
  obtain ⟨a, c, h1, h2, h3, h4⟩ := h
  exact ⟨a, c, (hb.block r (Array.getElem?_eq_some_iff.1 h1).1).trans h1, h2.below hb, h3, h4⟩
theorem RB.cells {W : World} {r : Nat} {ws : List Wd} {bh : Nat} {a : Option Addr} {c : Nat} (h1 : W.heap[r]? = some (.cells #[.slice a ws.length c, .int .i64 (bh : Int)] 79 (0, 0))) : W.cell? ⟨r, 0, none⟩ = some (.slice a ws.length c) ∧ W.cell? ⟨r, 1, none⟩ = some (.int .i64 (bh : Int)) ∧ W.frozen? ⟨r, 0, none⟩ = false ∧ W.frozen? ⟨r, 1, none⟩ = false :=
  ⟨by simp [World.cell?, h1], by simp [World.cell?, h1], frozen_of_row W r 0 _ _ h1, frozen_of_row W r 1 _ _ h1⟩
/-- block b is a word's box -/
def WB (W : World) (b : Nat) (u v : Value) : Prop := W.heap[b]? = some (.cells #[u, v] 76 (0, 0))
theorem WB.cells {W : World} {b : Nat} {u v : Value} (h : WB W b u v) : W.cell? ⟨b, 0, none⟩ = some u ∧ W.cell? ⟨b, 1, none⟩ = some v ∧ W.frozen? ⟨b, 0, none⟩ = false ∧ W.frozen? ⟨b, 1, none⟩ = false :=
  ⟨by simp [World.cell?, show W.heap[b]? = _ from h], by simp [World.cell?, show W.heap[b]? = _ from h], frozen_of_row W b 0 _ _ h, frozen_of_row W b 1 _ _ h⟩
theorem WB.set {W : World} {b : Nat} {u v : Value} (h : WB W b u v) (u' v' : Value) : WB ((W.setCell ⟨b, 0, none⟩ u').setCell ⟨b, 1, none⟩ v') b u' v' := heap_setCell_same _ b 1 _ _ v' (heap_setCell_same W b 0 _ _ u' h)
theorem load_word {W : World} {b : Nat} {u v : Value} (h : WB W b u v) : (loadVar 76 ⟨b, 0, none⟩).run Tryz.prog W = .ok (.agg #[u, v]) W := by
  obtain ⟨q0, q1, _⟩ := h.cells
  simp [go_sem, q0, q1]
theorem ErrAt.word {W : World} {v : Value} {line col : Nat} {n : Int} {b i : Nat} {u1 u2 u : Value} (h : ErrAt W v line col n) (hw : WB W b u1 u2) : ErrAt (W.setCell ⟨b, i, none⟩ u) v line col n := by
  obtain ⟨g, h1, h2⟩ := h
  refine ⟨g, h1, (heap_setCell_other W ⟨b, i, none⟩ g u ?_).trans h2⟩
  intro e
  have e' : g = b := e
  subst e'
  have := h2.symm.trans hw
  simp only [Option.some.injEq, Obj.cells.injEq] at this
  exact absurd this.2.1 (by decide)
/-- next's answers -/
def NextPost (Z : Nat → Prop) (W : World) (r : Nat) (rd : Rd) (e : Ending) (w' : World) : Prop :=
  (∃ v col, rNext rd = .error (col, 40) ∧ e = .returned (.tuple #[.agg #[.string ⟨#[]⟩, .int .i64 0], v]) ∧ ErrAt w' v 0 col 40 ∧ RB Z w' r rd ∧ Bx r W w') ∨
  (∃ x rd', rNext rd = .ok (x, rd') ∧ e = .returned (.tuple #[.agg #[.string (S x.1), .int .i64 (x.2 : Int)], .nilIface]) ∧ RB Z w' r rd' ∧ Bx r W w')
set_option maxRecDepth 100000 in
set_option maxHeartbeats 1000000 in
theorem next_any {Z : Nat → Prop} (w : World) (r : Nat) (rd : Rd) (h : RB Z w r rd) (hs : SmallW rd.1) : Calls Tryz.prog 38 #[.pointer (some ⟨r, 0, none⟩)] w fun e w' => NextPost Z w r rd e w' := by
  obtain ⟨ws, bh⟩ := rd
  obtain ⟨a, c, h1, h2, h3, h4⟩ := h
  have hr : r < w.heap.size := (Array.getElem?_eq_some_iff.1 h1).1
  have x0 : w.cell? ⟨r, 0, none⟩ = some (.slice a ws.length c) := by simp [World.cell?, h1]
  have x1 : w.cell? ⟨r, 1, none⟩ = some (.int .i64 (bh : Int)) := by simp [World.cell?, h1]
  cases ws with
  | nil =>
    have HR : Hid (RB Z w r ([], bh)) := ⟨a, c, h1, h2, h3, h4⟩
    have y1 := Lib.cell?_alloc_some (.cells #[.string ⟨#[]⟩, .int .i64 0] 76) x1
    have y0 := Lib.cell?_alloc_some (.cells #[.string ⟨#[]⟩, .int .i64 0] 76) x0
    have HC := wrong_any (w.alloc (.cells #[.string ⟨#[]⟩, .int .i64 0] 76)) bh 40
    have HB : Hid (Go.RowKit.Below w.heap.size w (w.alloc (.cells #[.string ⟨#[]⟩, .int .i64 0] 76))) := bel_al _ _
    clear h1 h2 h3 h4 hs
    simp only [List.length_nil] at x0 y0
    go_enter Tryz.func38, Tryz.ntmps38
    go_wp2_with fail
    refine HC.mono ?_
    rintro e w1 ⟨v, rfl, k1, k2⟩
    have hw1 : WB w1 w.heap.size (.string ⟨#[]⟩) (.int .i64 0) := (k2.block w.heap.size (by simp)).trans (heap_alloc_new _ _ rfl)
    have HE : Hid (ErrAt ((w1.setCell ⟨w.heap.size, 0, none⟩ (.string ⟨#[]⟩)).setCell ⟨w.heap.size, 1, none⟩ (.int .i64 0)) v 0 bh 40) := (k1.word hw1).word (heap_setCell_same w1 w.heap.size 0 _ _ _ hw1)
    have HB1 : Hid (Go.RowKit.Below w.heap.size w ((w1.setCell ⟨w.heap.size, 0, none⟩ (.string ⟨#[]⟩)).setCell ⟨w.heap.size, 1, none⟩ (.int .i64 0))) := ((HB.out.trans (k2.mono HB.out.size)).trans (below_setC _ _ (Nat.le_refl _))).trans (below_setC _ _ (Nat.le_refl _))
    obtain ⟨z0, z1, f0, f1⟩ := hw1.cells
    have hld := load_word (hw1.set (.string ⟨#[]⟩) (.int .i64 0))
    clear hw1 k1 k2 HC y0 y1 x0 x1
    go_wp2_with fail
    refine bodyPost_ret (v := .tuple #[.agg #[.string ⟨#[]⟩, .int .i64 0], v]) ?_ rfl ?_
    · simp [results, Tryz.results38, asAddr, hld]
    · exact .inl ⟨v, bh, rfl, rfl, HE.out, HR.out.kept HB1.out, Bx.bel HB1.out⟩
  | cons x ws =>
    obtain ⟨hs1, hs2⟩ := hs
    have hxs := hs1 x (List.mem_cons_self ..)
    simp only [List.length_cons] at x0 h4 hs2
    rcases h2 with h2 | ⟨b, off, rfl, hc⟩
    · simp [wcs] at h2
    have hbr : b ≠ r := (h3 _ rfl (by simp)).1
    have hbz : Z b := (h3 _ rfl (by simp)).2
    have z0 : w.cell? ⟨b, off, none⟩ = some (.string (S x.1)) := hc 0 _ rfl
    have z1 : w.cell? ⟨b, off + 1, none⟩ = some (.int .i64 (x.2 : Int)) := hc 1 _ rfl
    have hbl : b < w.heap.size := cell_lt z0
    have y0 := Lib.cell?_alloc_some (.cells #[.string ⟨#[]⟩, .int .i64 0] 76) x0
    have y1 := Lib.cell?_alloc_some (.cells #[.string ⟨#[]⟩, .int .i64 0] 76) x1
    have u0 := Lib.cell?_alloc_some (.cells #[.string ⟨#[]⟩, .int .i64 0] 76) z0
    have u1 := Lib.cell?_alloc_some (.cells #[.string ⟨#[]⟩, .int .i64 0] 76) z1
    have HB2 : Hid (Go.RowKit.Below w.heap.size w ((w.alloc (.cells #[.string ⟨#[]⟩, .int .i64 0] 76)).alloc (.cells #[.string (S x.1), .int .i64 (x.2 : Int)] 76))) := ((Below.refl _ _).alloc (Nat.le_refl _) _).alloc (by simp) _
    have HW2 : Hid (WB ((w.alloc (.cells #[.string ⟨#[]⟩, .int .i64 0] 76)).alloc (.cells #[.string (S x.1), .int .i64 (x.2 : Int)] 76)) w.heap.size (.string ⟨#[]⟩) (.int .i64 0)) := (heap_alloc_old _ _ (by simp)).trans (heap_alloc_new _ _ rfl)
    have HW4 : Hid (WB ((w.alloc (.cells #[.string ⟨#[]⟩, .int .i64 0] 76)).alloc (.cells #[.string (S x.1), .int .i64 (x.2 : Int)] 76)) (w.heap.size + 1) (.string (S x.1)) (.int .i64 (x.2 : Int))) := heap_alloc_new _ _ (by simp)
    have H1 : Hid (w.heap[r]? = some (.cells #[.slice (some ⟨b, off, none⟩) (ws.length + 1) c, .int .i64 (bh : Int)] 79 (0, 0))) := h1
    have HC : Hid (∀ j u, (wcs (x :: ws))[j]? = some u → w.cell? ⟨b, off + j, none⟩ = some u) := hc
    have hsz : (S x.1).size = x.1.length := S_size x.1
    clear h1 hc h3 hs1
    go_enter Tryz.func38, Tryz.ntmps38
    go_upto_region 4 with fail
    generalize (w.alloc (.cells #[.string ⟨#[]⟩, .int .i64 0] 76)).alloc (.cells #[.string (S x.1), .int .i64 (x.2 : Int)] 76) = W2 at *
    have HR2 : Hid (W2.heap[r]? = some (.cells #[.slice (some ⟨b, off, none⟩) (ws.length + 1) c, .int .i64 (bh : Int)] 79 (0, 0))) := (HB2.out.block r hr).trans H1.out
    clear x0 x1 z0 z1 y0 y1 u0 u1
    have hn1 : r ≠ w.heap.size := by omega
    have hn2 : r ≠ w.heap.size + 1 := by omega
    -- the reader's words
    have r0 : W2.cell? ⟨r, 0, none⟩ = some (.slice (some ⟨b, off, none⟩) (ws.length + 1) c) := by simp [World.cell?, HR2.out]
    have fr0 := frozen_of_row W2 r 0 _ _ HR2.out
    go_upto_region 5 with fail
    have HCa : Hid (∃ a', (if c = 1 then some ⟨b, off, none⟩ else some ⟨b, off + 2, none⟩ : Option Addr) = a' ∧ CellsAt w a' (wcs ws) ∧ ∀ ad, a' = some ad → ad.block = b) := by
      by_cases hc1 : c = 1
      · have hws : ws = [] := List.eq_nil_of_length_eq_zero (by omega)
        rw [if_pos hc1]
        exact ⟨_, rfl, .inl (by rw [hws]; rfl), fun ad e => by cases e; rfl⟩
      · rw [if_neg hc1]
        refine ⟨_, rfl, .inr ⟨b, off + 2, rfl, fun j u hu => ?_⟩, fun ad e => by cases e; rfl⟩
        have := HC.out (j + 2) u hu
        rw [show off + (j + 2) = off + 2 + j by omega] at this
        exact this
    obtain ⟨a', ha, hca, hab⟩ := HCa.out
    rw [ha]
    have HA : Hid (CellsAt w a' (wcs ws) ∧ ∀ ad, a' = some ad → ad.block = b) := ⟨hca, hab⟩
    clear ha hca hab HCa HC r0 fr0
    have HR3 : Hid ((W2.setCell ⟨r, 0, none⟩ (.slice a' ws.length (c - 1))).heap[r]? = some (.cells #[.slice a' ws.length (c - 1), .int .i64 (bh : Int)] 79 (0, 0))) := heap_setCell_same W2 r 0 _ _ _ HR2.out
    have HX3 : Hid (WB (W2.setCell ⟨r, 0, none⟩ (.slice a' ws.length (c - 1))) w.heap.size (.string ⟨#[]⟩) (.int .i64 0)) := (heap_setCell_other _ _ _ _ (fun e => hn1 e.symm)).trans HW2.out
    have HY3 : Hid (WB (W2.setCell ⟨r, 0, none⟩ (.slice a' ws.length (c - 1))) (w.heap.size + 1) (.string (S x.1)) (.int .i64 (x.2 : Int))) := (heap_setCell_other _ _ _ _ (fun e => hn2 e.symm)).trans HW4.out
    have HBx3 : Hid (Bx r w (W2.setCell ⟨r, 0, none⟩ (.slice a' ws.length (c - 1)))) := (Bx.bel HB2.out).trans (Bx.set r W2 0 _)
    clear HR2 HW2 HW4 HB2
    generalize W2.setCell ⟨r, 0, none⟩ (.slice a' ws.length (c - 1)) = W3 at *
    have r1 : W3.cell? ⟨r, 1, none⟩ = some (.int .i64 (bh : Int)) := by simp [World.cell?, HR3.out]
    have fr1 := frozen_of_row W3 r 1 _ _ HR3.out
    obtain ⟨q0, q1, _, _⟩ := HY3.out.cells
    go_upto_region 6 with fail
    have HR4 : Hid ((W3.setCell ⟨r, 1, none⟩ (.int .i64 ((x.2 : Int) + (x.1.length : Int)))).heap[r]? = some (.cells #[.slice a' ws.length (c - 1), .int .i64 ((x.2 : Int) + (x.1.length : Int))] 79 (0, 0))) := heap_setCell_same W3 r 1 _ _ _ HR3.out
    have HX4 : Hid (WB (W3.setCell ⟨r, 1, none⟩ (.int .i64 ((x.2 : Int) + (x.1.length : Int)))) w.heap.size (.string ⟨#[]⟩) (.int .i64 0)) := (heap_setCell_other _ _ _ _ (fun e => hn1 e.symm)).trans HX3.out
    have HY4 : Hid (WB (W3.setCell ⟨r, 1, none⟩ (.int .i64 ((x.2 : Int) + (x.1.length : Int)))) (w.heap.size + 1) (.string (S x.1)) (.int .i64 (x.2 : Int))) := (heap_setCell_other _ _ _ _ (fun e => hn2 e.symm)).trans HY3.out
    have HBx4 : Hid (Bx r w (W3.setCell ⟨r, 1, none⟩ (.int .i64 ((x.2 : Int) + (x.1.length : Int))))) := HBx3.out.trans (Bx.set r W3 1 _)
    clear HR3 HX3 HY3 HBx3 r1 fr1 q0 q1
    generalize W3.setCell ⟨r, 1, none⟩ (.int .i64 ((x.2 : Int) + (x.1.length : Int))) = W4 at *
    obtain ⟨q0, q1, _, _⟩ := HY4.out.cells
    obtain ⟨p0, p1, fp0, fp1⟩ := HX4.out.cells
    have hld := load_word (HX4.out.set (.string (S x.1)) (.int .i64 (x.2 : Int)))
    have HE : Hid (RB Z ((W4.setCell ⟨w.heap.size, 0, none⟩ (.string (S x.1))).setCell ⟨w.heap.size, 1, none⟩ (.int .i64 (x.2 : Int))) r (ws, x.2 + x.1.length) ∧ Bx r w ((W4.setCell ⟨w.heap.size, 0, none⟩ (.string (S x.1))).setCell ⟨w.heap.size, 1, none⟩ (.int .i64 (x.2 : Int)))) := by
      have hb : Bx r w ((W4.setCell ⟨w.heap.size, 0, none⟩ (.string (S x.1))).setCell ⟨w.heap.size, 1, none⟩ (.int .i64 (x.2 : Int))) := ⟨HBx4.out.os, HBx4.out.tape, HBx4.out.output, by simpa using HBx4.out.size, fun k hk hkr => by
        rw [heap_setCell_other _ _ _ _ (by show k ≠ w.heap.size; omega), heap_setCell_other _ _ _ _ (by show k ≠ w.heap.size; omega)]
        exact HBx4.out.block k hk hkr⟩
      refine ⟨⟨a', c - 1, ?_, HA.out.1.bx hb (fun ad e _ => by rw [HA.out.2 ad e]; exact hbr), fun ad e _ => by rw [HA.out.2 ad e]; exact ⟨hbr, hbz⟩, by show ws.length ≤ c - 1; omega⟩, hb⟩
      rw [heap_setCell_other _ _ _ _ hn1, heap_setCell_other _ _ _ _ hn1, HR4.out]
      rw [show ((x.2 + x.1.length : Nat) : Int) = (x.2 : Int) + (x.1.length : Int) by omega]
    go_wp2_with fail
    refine bodyPost_ret (v := .tuple #[.agg #[.string (S x.1), .int .i64 (x.2 : Int)], .nilIface]) ?_ rfl ?_
    · simp [results, Tryz.results38, asAddr, hld]
    · exact .inr ⟨x, _, rfl, rfl, HE.out.1, HE.out.2⟩
end Go.Proofs.YtmkomfbjgmgemaaGreatDoor
/-
  A LINE's READER: must, end.
-/
namespace Go.Proofs.YtmkomfbjgmgemaaGreatDoor
open Go.RowKit Go.Sort

theorem S_toList (l : List UInt8) : (S l).toList = l := by rw [byteList]; simp [S]
theorem next_inv {ws ws' : List Wd} {bh bh' : Nat} {x : Wd} (h : rNext (ws, bh) = .ok (x, (ws', bh'))) : ws = x :: ws' ∧ bh' = x.2 + x.1.length := by
  cases ws with
  | nil => cases h
  | cons y ws => simp only [rNext, Except.ok.injEq, Prod.mk.injEq] at h; obtain ⟨rfl, rfl, rfl⟩ := h; exact ⟨rfl, rfl⟩
/-- must's answers -/
def MustPost (Z : Nat → Prop) (W : World) (r : Nat) (t : List UInt8) (rd : Rd) (e : Ending) (w' : World) : Prop :=
  (∃ v col n, rMust t rd = .error (col, n) ∧ e = .returned v ∧ ErrAt w' v 0 col n ∧ Bx r W w') ∨
  (∃ rd', rMust t rd = .ok rd' ∧ e = .returned .nilIface ∧ RB Z w' r rd' ∧ Bx r W w')
set_option maxRecDepth 100000 in
set_option maxHeartbeats 1000000 in
theorem must_any {Z : Nat → Prop} (w : World) (r : Nat) (t : List UInt8) (rd : Rd) (h : RB Z w r rd) (hs : SmallW rd.1) : Calls Tryz.prog 47 #[.pointer (some ⟨r, 0, none⟩), .string (S t)] w fun e w' => MustPost Z w r t rd e w' := by
  have HC := next_any w r rd h hs
  clear h hs
  go_enter Tryz.func47, Tryz.ntmps47
  go_wp2_with fail
  refine HC.mono ?_
  rintro e w1 (⟨v, col, h1, rfl, h3, h4, h5⟩ | ⟨x, rd', h1, rfl, h3, h4⟩)
  · obtain ⟨b, rfl, hb⟩ := h3
    have HE : Hid (MustPost Z w r t rd (.returned (.iface 58 (.pointer (some ⟨b, 0, none⟩)))) (w1.alloc (.cells #[.string ⟨#[]⟩, .int .i64 0] 76))) := .inl ⟨_, col, 40, by unfold rMust; rw [h1], rfl, ErrAt.kept ⟨b, rfl, hb⟩ (bel_al _ _), h5.trans (Bx.bel (bel_al _ _))⟩
    clear h1 h4 h5 hb
    go_wp2_with fail
    go_ret
    exact HE.out
  · by_cases hx : x.1 = t
    · have HE : Hid (MustPost Z w r t rd (.returned .nilIface) (w1.alloc (.cells #[.string (S x.1), .int .i64 (x.2 : Int)] 76))) := .inr ⟨rd', by unfold rMust; rw [h1]; exact if_pos hx, rfl, h3.kept (bel_al _ _), h4.trans (Bx.bel (bel_al _ _))⟩
      subst hx
      clear h1 h3 h4
      go_wp2_with fail
      go_ret
      exact HE.out
    · have hne : ((S x.1).toList == (S t).toList) = false := by
        rw [S_toList, S_toList]; simpa using hx
      have HW : Hid (WB (w1.alloc (.cells #[.string (S x.1), .int .i64 (x.2 : Int)] 76)) w1.heap.size (.string (S x.1)) (.int .i64 (x.2 : Int))) := heap_alloc_new _ _ rfl
      have HW1 := wrong_any (w1.alloc (.cells #[.string (S x.1), .int .i64 (x.2 : Int)] 76)) x.2 40
      have H1 : Hid (rMust t rd = .error (x.2, 40)) := by show _ = _; unfold rMust; rw [h1]; exact if_neg hx
      have HB : Hid (Bx r w (w1.alloc (.cells #[.string (S x.1), .int .i64 (x.2 : Int)] 76))) := h4.trans (Bx.bel (bel_al _ _))
      clear h1 h3 h4 hx
      go_wp2_with fail
      refine HW1.mono ?_
      rintro e w2 ⟨v, rfl, k1, k2⟩
      have HE : Hid (MustPost Z w r t rd (.returned v) w2) := .inl ⟨v, x.2, 40, H1.out, rfl, k1, HB.out.trans (Bx.bel k2)⟩
      clear k1 k2 HW1
      go_wp2_with fail
      go_ret
      exact HE.out
/-- end's answers -/
def EndPost (W : World) (rd : Rd) (e : Ending) (w' : World) : Prop :=
  (∃ v col n, rEnd rd = some (col, n) ∧ e = .returned v ∧ ErrAt w' v 0 col n ∧ Go.RowKit.Below W.heap.size W w') ∨ (rEnd rd = none ∧ e = .returned .nilIface ∧ w' = W)
set_option maxRecDepth 100000 in
set_option maxHeartbeats 1000000 in
theorem end_any {Z : Nat → Prop} (w : World) (r : Nat) (rd : Rd) (h : RB Z w r rd) (hs : SmallW rd.1) : Calls Tryz.prog 39 #[.pointer (some ⟨r, 0, none⟩)] w fun e w' => EndPost w rd e w' := by
  obtain ⟨ws, bh⟩ := rd
  obtain ⟨a, c, h1, h2, h3, h4⟩ := h
  have hs2 := hs.2
  have x0 : w.cell? ⟨r, 0, none⟩ = some (.slice a ws.length c) := by simp [World.cell?, h1]
  cases ws with
  | nil =>
    simp only [List.length_nil] at x0
    clear h1 h2 h3 h4 hs
    go_enter Tryz.func39, Tryz.ntmps39
    go_wp2
    go_ret
    exact .inr ⟨rfl, rfl, rfl⟩
  | cons x ws =>
    rcases h2 with h2 | ⟨b, off, rfl, hc⟩
    · simp [wcs] at h2
    simp only [List.length_cons] at x0 hs2
    have z1 : w.cell? ⟨b, off + 1, none⟩ = some (.int .i64 (x.2 : Int)) := hc 1 _ rfl
    have HC := wrong_any w x.2 40
    clear h1 hc h3 h4 hs
    go_enter Tryz.func39, Tryz.ntmps39
    go_wp2_with fail
    refine HC.mono ?_
    rintro e w1 ⟨v, rfl, k1, k2⟩
    have HE : Hid (EndPost w (x :: ws, bh) (.returned v) w1) := .inl ⟨v, x.2, 40, rfl, rfl, k1, k2⟩
    clear k1 k2 HC
    go_wp2_with fail
    go_ret
    exact HE.out
end Go.Proofs.YtmkomfbjgmgemaaGreatDoor
