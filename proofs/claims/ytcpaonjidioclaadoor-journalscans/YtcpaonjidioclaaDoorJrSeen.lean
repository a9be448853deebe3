/-
  Seen, AT THE ERRORS THAT A Scan TELLS.
-/
import Derived.Test.YtcpaonjidioclaaDoorJrRef
import Derived.Deep.RegionHeld3
namespace Go.Proofs.YtcpaonjidioclaaDoor
open Go.RowKit

theorem asJB (a : Option Addr) (w : World) : (Instr.typeAssert (.iface 42 (.pointer a)) 25 42 true).run Tryd.prog w = .ok (.tuple #[.pointer a, .bool true]) w := by kernel_rfl
theorem asJE (a : Option Addr) (w : World) : (Instr.typeAssert (.iface 42 (.pointer a)) 25 41 true).run Tryd.prog w = .ok (.tuple #[.int .i64 0, .bool false]) w := by kernel_rfl

set_option maxRecDepth 100000 in
set_option maxHeartbeats 2000000 in
theorem seen_nil (w : World) : Calls Tryd.prog 7 #[.nilIface] w fun e w' => e = .returned (.agg #[.int .i64 0, .int .i64 0, .int .i64 0]) ∧ Below w.heap.size w w' := by
  have HG : Hid (Below w.heap.size w (w.alloc (.cells #[.int .i64 0, .int .i64 0, .int .i64 0] 29))) := (Below.refl _ _).alloc (Nat.le_refl _) _
  go_enter Tryd.func7, Tryd.ntmps7
  go_wp2_with fail
  refine bodyPost_ret (v := .agg #[.int .i64 0, .int .i64 0, .int .i64 0]) (by simp [results, Tryd.results7, go_sem]) rfl ⟨rfl, ?_⟩
  exact HG.out

set_option maxRecDepth 100000 in
set_option maxHeartbeats 2000000 in
theorem seen_byte (w : World) (P : Nat) (at_ code : Int) (h : ByteErr w P at_ code) :
    Calls Tryd.prog 7 #[.iface 42 (.pointer (some ⟨P, 0, none⟩))] w fun e w' => e = .returned (.agg #[.int .i64 2, .int .i64 at_, .int .i64 code]) ∧ Below w.heap.size w w' := by
  have hta := asJB
  have hte := asJE
  have hP := (Array.getElem?_eq_some_iff.1 h).1
  have hA : Below w.heap.size w (w.alloc (.cells #[.int .i64 0, .int .i64 0, .int .i64 0] 29)) := (Below.refl _ _).alloc (Nat.le_refl _) _
  have hbx : Box3 (w.alloc (.cells #[.int .i64 0, .int .i64 0, .int .i64 0] 29)) w.heap.size 29 (.int .i64 0) (.int .i64 0) (.int .i64 0) := ⟨heap_alloc_new _ _⟩
  have hbe := h.kept hA
  clear h
  go_enter Tryd.func7, Tryd.ntmps7
  have HA : Hid (Below w.heap.size w (w.alloc (.cells #[.int .i64 0, .int .i64 0, .int .i64 0] 29))) := hA
  have HX := hidJ hbx
  have HE := hidJ hbe
  clear hA hbx hbe
  go_wp2_with fail
  generalize (w.alloc (.cells #[.int .i64 0, .int .i64 0, .int .i64 0] 29)) = W at *
  have HC := hidJ (code_any W.drew code)
  have c0 : W.cell? ⟨P, 0, none⟩ = some (.int .i64 at_) := by rw [World.cell?, HE.out]; rfl
  have c1 : W.cell? ⟨P, 1, none⟩ = some (.iface 41 (.int .i64 code)) := by rw [World.cell?, HE.out]; rfl
  have k0 := HX.out.c0
  have k1 := HX.out.c1
  have k2 := HX.out.c2
  have z0 := HX.out.z 0
  have z1 := HX.out.z 1
  have z2 := HX.out.z 2
  have hp := HX.out.put (.int .i64 2) (.int .i64 at_) (.int .i64 code)
  have y0 := hp.c0
  have y1 := hp.c1
  have y2 := hp.c2
  have HF : Hid (Below w.heap.size w ((((W.setCell ⟨w.heap.size, 0, none⟩ (.int .i64 2)).setCell ⟨w.heap.size, 1, none⟩ (.int .i64 at_)).setCell ⟨w.heap.size, 2, none⟩ (.int .i64 code)).drew)) :=
    below_drewN (bsetJ (bsetJ (bsetJ HA.out _ (Nat.le_refl _)) _ (Nat.le_refl _)) _ (Nat.le_refl _)) 1
  have hS : ∀ i, (((W.setCell ⟨w.heap.size, 0, none⟩ (.int .i64 2)).setCell ⟨w.heap.size, 1, none⟩ (.int .i64 at_)).setCell ⟨w.heap.size, 2, none⟩ (.int .i64 code)).drew.cell? ⟨P, i, none⟩ = W.cell? ⟨P, i, none⟩ := fun i => by
    show (((W.setCell ⟨w.heap.size, 0, none⟩ (.int .i64 2)).setCell ⟨w.heap.size, 1, none⟩ (.int .i64 at_)).setCell ⟨w.heap.size, 2, none⟩ (.int .i64 code)).cell? ⟨P, i, none⟩ = _
    rw [World.cell?, World.cell?, heap_setCell_other _ _ P _ (by simp; omega), heap_setCell_other _ _ P _ (by simp; omega), heap_setCell_other _ _ P _ (by simp; omega)]
  have HS := hidJ (And.intro ((hS 0).trans c0) ((hS 1).trans c1))
  clear hp hS
  go_region_held3 (fun w' => w'.cell? ⟨P, 0, none⟩ = some (.int .i64 at_) ∧ w'.cell? ⟨P, 1, none⟩ = some (.iface 41 (.int .i64 code))) (first | with_reducible exact ⟨c0, c1⟩ | with_reducible exact HS.out | go_keep) (first | (go_at_call 11; with_reducible refine HC.out.mono ?_; rintro e w9 ⟨rfl, rfl⟩))
  go_wp2_with fail
  refine bodyPost_ret (v := .agg #[.int .i64 2, .int .i64 at_, .int .i64 code]) (by simp [results, Tryd.results7, go_sem, y0, y1, y2]) rfl ⟨rfl, ?_⟩
  exact HF.out

/-- what Seen answers at a scan's error is the document's -/
theorem seen_scan (w : World) (p : Nat) (code : Int) (v : Value) (h : ScanErr w p code v) :
    Calls Tryd.prog 7 #[v] w fun e w' => e = .returned (errV p code) ∧ Below w.heap.size w w' := by
  rcases h with ⟨rfl, rfl⟩ | ⟨h1, P, rfl, h2⟩
  · rw [errV, if_pos rfl]; exact seen_nil w
  · rw [errV, if_neg h1]; exact seen_byte w P (p : Int) code h2

end Go.Proofs.YtcpaonjidioclaaDoor
