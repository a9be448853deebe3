/-
  THE DOCUMENT's Scan; Seen.
-/
import Derived.Test.YtcpaonjidioclaaDoorJrScan
namespace Go.Proofs.YtcpaonjidioclaaDoor
open Go.RowKit

/-- the document's error of a scan -/
def errV (p : Nat) (code : Int) : Value := if code = 0 then .agg #[.int .i64 0, .int .i64 0, .int .i64 0] else .agg #[.int .i64 2, .int .i64 (p : Int), .int .i64 code]
def RScanPost (w : World) (zs : List Nat) (e : Ending) (w' : World) : Prop :=
  e = .returned (.tuple #[.int .i64 (((scanN zs).1 : Nat) : Int), .int .i64 (((scanN zs).2.1 : Nat) : Int), errV (scanN zs).2.1 (scanN zs).2.2]) ∧ Below w.heap.size w w'

/-- a box of three cells, in whatever world it lies -/
structure Box3 (w : World) (B T : Nat) (a b c : Value) : Prop where
  h : w.heap[B]? = some (.cells #[a, b, c] T (0, 0))
theorem Box3.c0 {w : World} {B T : Nat} {a b c : Value} (h : Box3 w B T a b c) : w.cell? ⟨B, 0, none⟩ = some a := by rw [World.cell?, h.h]; rfl
theorem Box3.c1 {w : World} {B T : Nat} {a b c : Value} (h : Box3 w B T a b c) : w.cell? ⟨B, 1, none⟩ = some b := by rw [World.cell?, h.h]; rfl
theorem Box3.c2 {w : World} {B T : Nat} {a b c : Value} (h : Box3 w B T a b c) : w.cell? ⟨B, 2, none⟩ = some c := by rw [World.cell?, h.h]; rfl
theorem Box3.z {w : World} {B T : Nat} {a b c : Value} (h : Box3 w B T a b c) (i : Nat) : w.frozen? ⟨B, i, none⟩ = false := frozen_of_row _ _ i _ _ h.h
theorem Box3.put {w : World} {B T : Nat} {a b c : Value} (h : Box3 w B T a b c) (x y z : Value) : Box3 (((w.setCell ⟨B, 0, none⟩ x).setCell ⟨B, 1, none⟩ y).setCell ⟨B, 2, none⟩ z) B T x y z := ⟨box3 h.h x y z⟩
theorem Box3.kept {w w' : World} {B T : Nat} {a b c : Value} (h : Box3 w B T a b c) (hb : Below w.heap.size w w') : Box3 w' B T a b c := ⟨(hb.block B (Array.getElem?_eq_some_iff.1 h.h).1).trans h.h⟩

set_option maxRecDepth 100000 in
set_option maxHeartbeats 2000000 in
theorem rscan_any (w : World) (ao : Option Addr) (cap n : Nat) (zs : List Nat) (hn : n = zs.length) (h : BytesAt w ao zs) (hm : n ≤ 140737488351232) (hcap : n ≤ cap) (hmax : cap ≤ maxLen) (hnil : ao = none → cap = 0) :
    Calls Tryd.prog 6 #[.slice ao n cap] w fun e w' => RScanPost w zs e w' := by
  have HN : Hid (n = zs.length) := hn
  have HA : Hid (BytesAt w ao zs) := h
  have HM : Hid (cap ≤ maxLen) := hmax
  have HC : Hid (ao = none → cap = 0) := hnil
  clear hn h hmax hnil
  go_enter Tryd.func6, Tryd.ntmps6
  go_wp2_with fail
  go_loopw [5, 6, 7, 8, 9, 10] (fun i s _ _ _ _ wr => ∃ k p : Nat, i = .int .i64 k ∧ s = .int .i64 p ∧ Hid (ScanTo zs k p) ∧ Hid (Below w.heap.size w wr) ∧ Hid (Box3 wr w.heap.size 29 (.int .i64 0) (.int .i64 0) (.int .i64 0))) (fun _ s _ _ _ _ _ => n - (intOf s).toNat)
  case atStart => exact ⟨0, 0, rfl, rfl, ScanTo.start zs, (Below.refl _ _).alloc (Nat.le_refl _) _, ⟨heap_alloc_new _ _⟩⟩
  case round =>
    obtain ⟨k, p, rfl, rfl, hst, hbr, hbx⟩ := hrel
    have hpn : p ≤ n := by rw [HN.out]; exact hst.out.le
    have hkp : k ≤ p := hst.out.np
    by_cases hlt : p < n
    · have HR := hidJ (refUnseal_any wr ao cap n (p : Int) zs HN.out (HA.out.kept hbr.out) hm hcap HM.out HC.out)
      have hltz : Hid (p < zs.length) := by have := HN.out; exact (show p < zs.length by omega)
      go_wp2_with fail
      refine HR.out.mono ?_
      rintro e w1 ⟨v1, rfl, ho1, hb1⟩
      have HB1 : Hid (Below w.heap.size w w1) := hbr.out.trans (hb1.mono hbr.out.size)
      have HX1 : Hid (Box3 w1 w.heap.size 29 (.int .i64 0) (.int .i64 0) (.int .i64 0)) := hbx.out.kept hb1
      clear ho1 hb1 hbr hbx HR
      by_cases hz : (Rec.opened zs (p : Int)).2.2.2 = 0
      · obtain ⟨q, hq, hpq, hql, hsn⟩ := hst.out.next hltz.out hz
        have hqn : q ≤ n := by rw [HN.out]; exact hql
        rw [hq, hz]
        have HS : Hid (ScanTo zs (k + 1) q) := hsn
        clear hz hq hsn hst hql hltz
        generalize (Rec.opened zs (p : Int)).1 = kk at *
        go_wp2_with fail
        go_roundw
        case rel => exact ⟨k + 1, q, by go_num, rfl, HS, HB1, HX1⟩
        case measure => simp [intOf]; omega
      · have HE : Hid (∀ W, Below w.heap.size w W → RScanPost w zs (.returned (.tuple #[.int .i64 (k : Int), .int .i64 (p : Int), .agg #[.int .i64 2, .int .i64 (p : Int), .int .i64 (Rec.opened zs (p : Int)).2.2.2]])) W) := by
          have hs := hst.out.stop hltz.out hz
          intro W hW
          refine ⟨?_, hW⟩
          rw [hs, errV, if_neg hz]
        have hzb : ((Rec.opened zs (p : Int)).2.2.2 != 0) = true := by simpa using hz
        clear hz hst hltz
        generalize (Rec.opened zs (p : Int)).2.2.2 = code at *
        generalize (Rec.opened zs (p : Int)).2.2.1 = nx at *
        generalize (Rec.opened zs (p : Int)).1 = kk at *
        have k0 := HX1.out.c0
        have k1 := HX1.out.c1
        have k2 := HX1.out.c2
        have z0 := HX1.out.z 0
        have z1 := HX1.out.z 1
        have z2 := HX1.out.z 2
        have hp := HX1.out.put (.int .i64 2) (.int .i64 (p : Int)) (.int .i64 code)
        have y0 := hp.c0
        have y1 := hp.c1
        have y2 := hp.c2
        have HF : Hid (RScanPost w zs (.returned (.tuple #[.int .i64 (k : Int), .int .i64 (p : Int), .agg #[.int .i64 2, .int .i64 (p : Int), .int .i64 code]])) (((w1.setCell ⟨w.heap.size, 0, none⟩ (.int .i64 2)).setCell ⟨w.heap.size, 1, none⟩ (.int .i64 (p : Int))).setCell ⟨w.heap.size, 2, none⟩ (.int .i64 code))) :=
          HE.out _ (bsetJ (bsetJ (bsetJ HB1.out _ (Nat.le_refl _)) _ (Nat.le_refl _)) _ (Nat.le_refl _))
        clear hp HE
        go_wp2_with fail
        refine bodyPost_ret (v := .tuple #[.int .i64 (k : Int), .int .i64 (p : Int), .agg #[.int .i64 2, .int .i64 (p : Int), .int .i64 code]]) (by simp [results, Tryd.results6, go_sem, y0, y1, y2]) rfl ?_
        exact HF.out
    · have k0 := hbx.out.c0
      have k1 := hbx.out.c1
      have k2 := hbx.out.c2
      have z0 := hbx.out.z 0
      have z1 := hbx.out.z 1
      have z2 := hbx.out.z 2
      have hp := hbx.out.put (.int .i64 0) (.int .i64 0) (.int .i64 0)
      have y0 := hp.c0
      have y1 := hp.c1
      have y2 := hp.c2
      have HF : Hid (RScanPost w zs (.returned (.tuple #[.int .i64 (k : Int), .int .i64 (p : Int), .agg #[.int .i64 0, .int .i64 0, .int .i64 0]])) (((wr.setCell ⟨w.heap.size, 0, none⟩ (.int .i64 0)).setCell ⟨w.heap.size, 1, none⟩ (.int .i64 0)).setCell ⟨w.heap.size, 2, none⟩ (.int .i64 0))) := by
        have hs := hst.out.whole (show ¬ p < zs.length by rw [← HN.out]; exact hlt)
        refine ⟨?_, bsetJ (bsetJ (bsetJ hbr.out _ (Nat.le_refl _)) _ (Nat.le_refl _)) _ (Nat.le_refl _)⟩
        rw [hs, errV, if_pos rfl]
      clear hst hbr hp hbx
      go_wp2_with fail
      refine bodyPost_ret (v := .tuple #[.int .i64 (k : Int), .int .i64 (p : Int), .agg #[.int .i64 0, .int .i64 0, .int .i64 0]]) (by simp [results, Tryd.results6, go_sem, y0, y1, y2]) rfl ?_
      exact HF.out

theorem code_any (w : World) (code : Int) : Calls Tryd.prog 11 #[.iface 41 (.int .i64 code)] w fun e w' => e = .returned (.int .i64 code) ∧ w' = w := by
  have hta : (Instr.typeAssert (.iface 41 (.int .i64 code)) 25 41 true).run Tryd.prog w = .ok (.tuple #[.int .i64 code, .bool true]) w := by kernel_rfl
  go_enter Tryd.func11, Tryd.ntmps11
  go_wp2_with fail
  go_ret
  exact ⟨rfl, rfl⟩

end Go.Proofs.YtcpaonjidioclaaDoor
