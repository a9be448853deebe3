import Derived.Test.YtiiplikmoodfnaaGreatDoorKAErr
import Derived.Test.YtiiplikmoodfnaaGreatDoorKARwords
import Derived.RangeFuncNested
import Derived.RangeFuncBound
import Derived.RangeFuncCalls
import Derived.RangeFuncLeaves
import Derived.RangeFuncBox
import Derived.Shelf.Abstract
import Derived.Shelf.RegionOpen
import Derived.WalkKit
import Derived.OwnWalkIn
import Derived.TacticsInMore
import Derived.LoopNIn
import Derived.LoopIn
import Derived.RegionIn
import Derived.Test.YtiiplikmoodfnaaGreatDoorKLSearch
/-
  fault: an error's place and number.
-/
namespace Go.Proofs.YtiiplikmoodfnaaGreatDoor
open Go.RowKit Go.Sort

/-- a fault's box -/
def FB (W : World) (b : Nat) (x y z : Value) : Prop := W.heap[b]? = some (.cells #[x, y, z] 24 (0, 0))
theorem load_fault {W : World} {b : Nat} {x y z : Value} (h : FB W b x y z) : (loadVar 24 ⟨b, 0, none⟩).run Tryz.prog W = .ok (.agg #[x, y, z]) W := by
  have q0 : W.cell? ⟨b, 0, none⟩ = some x := by simp [World.cell?, show W.heap[b]? = _ from h]
  have q1 : W.cell? ⟨b, 1, none⟩ = some y := by simp [World.cell?, show W.heap[b]? = _ from h]
  have q2 : W.cell? ⟨b, 2, none⟩ = some z := by simp [World.cell?, show W.heap[b]? = _ from h]
  simp [go_sem, q0, q1, q2]
set_option maxRecDepth 100000 in
theorem faultNil_any (w : World) : Calls Tryz.prog 6 #[.nilIface] w fun e w' => e = .returned (.agg #[.int .i64 0, .int .i64 0, .int .i64 0]) ∧ Go.RowKit.Below w.heap.size w w' := by
  have hF : FB (w.alloc (.cells #[.int .i64 0, .int .i64 0, .int .i64 0] 24)) w.heap.size (.int .i64 0) (.int .i64 0) (.int .i64 0) := heap_alloc_new _ _ rfl
  have hld := load_fault hF
  have HB := hidA (bel_al w (.cells #[.int .i64 0, .int .i64 0, .int .i64 0] 24))
  clear hF
  go_enter Tryz.func6, Tryz.ntmps6
  go_wp2
  refine bodyPost_ret (v := .agg #[.int .i64 0, .int .i64 0, .int .i64 0]) ?_ rfl ?_
  · simp [results, Tryz.results6, asAddr, hld]
  · exact ⟨rfl, HB.out⟩
/-- what errors.As leaves where it hits: the target has it -/
theorem hit_facts (W : World) (o1 o2 o3 o4 : Obj) (t : Nat) (T : TypeId) (u v : Value) (h : W.heap[t]? = some (.cells #[u] T (0, 0))) : (∀ k, k < W.heap.size → k ≠ t → (((((W.alloc o1).alloc o2).alloc o3).alloc o4).setCell ⟨t, 0, none⟩ v).heap[k]? = W.heap[k]?) ∧ (((((W.alloc o1).alloc o2).alloc o3).alloc o4).setCell ⟨t, 0, none⟩ v).heap[t]? = some (.cells #[v] T (0, 0)) ∧ (∀ C, C ≤ t → Go.RowKit.Below C W (((((W.alloc o1).alloc o2).alloc o3).alloc o4).setCell ⟨t, 0, none⟩ v)) := by
  have ht := (Array.getElem?_eq_some_iff.1 h).1
  have old : ∀ k, k < W.heap.size → ((((W.alloc o1).alloc o2).alloc o3).alloc o4).heap[k]? = W.heap[k]? := fun k hk => (heap_alloc_old _ _ (by simp only [World.size_alloc]; omega)).trans ((heap_alloc_old _ _ (by simp only [World.size_alloc]; omega)).trans ((heap_alloc_old _ _ (by simp only [World.size_alloc]; omega)).trans (heap_alloc_old _ _ hk)))
  refine ⟨fun k hk hne => (heap_setCell_other _ _ _ _ hne).trans (old k hk), heap_setCell_same _ t 0 _ _ _ ((old t ht).trans h), fun C hC => ?_⟩
  exact (((((Below.refl C W).alloc (by omega) _).alloc (by simp only [World.size_alloc]; omega) _).alloc (by simp only [World.size_alloc]; omega) _).alloc (by simp only [World.size_alloc]; omega) _).trans (below_setC _ _ hC)
theorem ErrVar.bel {W W' : World} (h : ErrVar W) {C : Nat} (hb : Go.RowKit.Below C W W') (hC : 8 ≤ C) : ErrVar W' := by
  have h2 := hb.block 0 (by omega)
  unfold ErrVar at h ⊢
  simp only [World.cell?] at h ⊢
  rw [h2]
  exact h
set_option maxRecDepth 100000 in
set_option maxHeartbeats 1000000 in
theorem fault_any (w : World) (v : Value) (line col : Nat) (n : Int) (h : ErrAt w v line col n) (he : ErrVar w) (hB : 8 ≤ w.heap.size) : Calls Tryz.prog 6 #[v] w fun e w' => e = .returned (.agg #[.int .i64 (line : Int), .int .i64 (col : Int), .int .i64 n]) ∧ Go.RowKit.Below w.heap.size w w' := by
  obtain ⟨b, rfl, hb⟩ := h
  have hbl := (Array.getElem?_eq_some_iff.1 hb).1
  obtain ⟨f, hf⟩ : ∃ f, f = w.heap.size := ⟨_, rfl⟩
  obtain ⟨W3, hW3⟩ : ∃ W3, W3 = ((w.alloc (.cells #[.int .i64 0, .int .i64 0, .int .i64 0] 24)).alloc (.cells #[.pointer none] 63)).alloc (.cells #[.int .i64 0] 51) := ⟨_, rfl⟩
  have hB3 : Go.RowKit.Below f w W3 := by rw [hW3, hf]; exact (((Below.refl _ w).alloc (Nat.le_refl _) _).alloc (by simp only [World.size_alloc]; omega) _).alloc (by simp only [World.size_alloc]; omega) _
  have hs3 : W3.heap.size = f + 3 := by rw [hW3, hf]; simp only [World.size_alloc]
  have hf3 : FB W3 f (.int .i64 0) (.int .i64 0) (.int .i64 0) := by rw [hW3, hf]; exact (heap_alloc_old _ _ (by simp only [World.size_alloc]; omega)).trans ((heap_alloc_old _ _ (by simp only [World.size_alloc]; omega)).trans (heap_alloc_new _ _ rfl))
  have hp3 : W3.heap[f + 1]? = some (.cells #[.pointer none] 63 (0, 0)) := by rw [hW3, hf]; exact (heap_alloc_old _ _ (by simp only [World.size_alloc]; omega)).trans (heap_alloc_new _ _ (by simp only [World.size_alloc]))
  have hn3 : W3.heap[f + 2]? = some (.cells #[.int .i64 0] 51 (0, 0)) := by rw [hW3, hf]; exact heap_alloc_new _ _ (by simp only [World.size_alloc])
  have hb3 := (hB3.block b (by omega)).trans hb
  have hE3 := he.bel hB3 (by omega)
  have HA1 := hidA (as_hitP ⟨b, 0, none⟩ ⟨f + 1, 0, none⟩ (.pointer none) W3 hE3 (by unfold World.cell?; rw [hp3]; rfl) (frozen_of_row _ _ 0 _ _ hp3))
  have HF3 := hidA (And.intro hB3 (And.intro hs3 (And.intro hf3 (And.intro hp3 (And.intro hn3 (And.intro hb3 hE3))))))
  have HB' : Hid (8 ≤ f ∧ b < f) := ⟨by omega, by omega⟩
  clear he hb hB3 hs3 hf3 hp3 hn3 hb3 hE3
  go_enter Tryz.func6, Tryz.ntmps6
  go_upto_region 5 with fail
  rw [← hW3]
  clear hW3
  rw [← hf]
  rw [show f + 1 + 1 = f + 2 from rfl]
  have HFq := hidA hf
  clear hbl hB hf
  go_wp2_with fail
  refine HA1.out.mono ?_
  rintro e w4 ⟨rfl, hw4⟩
  obtain ⟨hB3, hs3, hf3, hp3, hn3, hb3, hE3⟩ := HF3.out
  obtain ⟨k1, k2, k3⟩ := hit_facts W3 (.cells #[.pointer (some ⟨f + 1, 0, none⟩)] 65) (.cells #[.pointer (some ⟨8, 65, none⟩), .pointer (some ⟨W3.heap.size, 0, none⟩), .int .u64 150] 92) (.cells #[.pointer (some ⟨8, 65, none⟩), .pointer (some ⟨W3.heap.size, 0, none⟩), .int .u64 150] 92) (.cells #[.pointer (some ⟨b, 0, none⟩)] 63) (f + 1) _ _ (.pointer (some ⟨b, 0, none⟩)) hp3
  rw [← hw4] at k1 k2 k3
  have hbf := HB'.out
  have hB4 := hB3.trans (k3 f (by omega))
  have hs4 : f + 3 ≤ w4.heap.size := by have := (k3 f (by omega)).size; omega
  have hf4 : FB w4 f (.int .i64 0) (.int .i64 0) (.int .i64 0) := (k1 f (by omega) (by omega)).trans hf3
  have hn4 := (k1 (f + 2) (by omega) (by omega)).trans hn3
  have hb4 := (k1 b (by omega) (by omega)).trans hb3
  have hE4 := hE3.bel (k3 f (by omega)) hbf.1
  have HA2 := hidA (as_hitN n ⟨f + 2, 0, none⟩ (.int .i64 0) w4 hE4 (by unfold World.cell?; rw [hn4]; rfl) (frozen_of_row _ _ 0 _ _ hn4))
  have y0 : w4.cell? ⟨f + 1, 0, none⟩ = some (.pointer (some ⟨b, 0, none⟩)) := by unfold World.cell?; rw [k2]; rfl
  have y1 : w4.cell? ⟨b, 2, none⟩ = some (.iface 51 (.int .i64 n)) := by unfold World.cell?; rw [hb4]; rfl
  have HF4 := hidA (And.intro hB4 (And.intro hs4 (And.intro hf4 (And.intro k2 (And.intro hn4 hb4)))))
  clear hB3 hs3 hf3 hp3 hn3 hb3 hE3 k1 k2 k3 hw4 hbf hB4 hs4 hf4 hn4 hb4 hE4 HA1 HF3
  go_wp2_with fail
  refine HA2.out.mono ?_
  rintro e w5 ⟨rfl, hw5⟩
  obtain ⟨hB4, hs4, hf4, hp4, hn4, hb4⟩ := HF4.out
  obtain ⟨k1, k2, k3⟩ := hit_facts w4 (.cells #[.pointer (some ⟨f + 2, 0, none⟩)] 70) (.cells #[.pointer (some ⟨8, 70, none⟩), .pointer (some ⟨w4.heap.size, 0, none⟩), .int .u64 150] 92) (.cells #[.pointer (some ⟨8, 70, none⟩), .pointer (some ⟨w4.heap.size, 0, none⟩), .int .u64 150] 92) (.cells #[.int .i64 n] 51) (f + 2) _ _ (.int .i64 n) hn4
  rw [← hw5] at k1 k2 k3
  have hbf := HB'.out
  have hf5 : FB w5 f (.int .i64 0) (.int .i64 0) (.int .i64 0) := (k1 f (by omega) (by omega)).trans hf4
  have hp5 := (k1 (f + 1) (by omega) (by omega)).trans hp4
  have hb5 := (k1 b (by omega) (by omega)).trans hb4
  have hB5 := hB4.trans (k3 f (by omega))
  have HS5 : Hid (∀ W' : World, (∀ k, k < w5.heap.size → k ≠ f → W'.heap[k]? = w5.heap[k]?) → W'.cell? ⟨f + 1, 0, none⟩ = some (.pointer (some ⟨b, 0, none⟩)) ∧ W'.cell? ⟨b, 0, none⟩ = some (.int .i64 (line : Int)) ∧ W'.cell? ⟨b, 1, none⟩ = some (.int .i64 (col : Int)) ∧ W'.cell? ⟨f + 2, 0, none⟩ = some (.int .i64 n)) := fun W' hk => by
    have q1 := (hk (f + 1) (Array.getElem?_eq_some_iff.1 hp5).1 (by omega)).trans hp5
    have q2 := (hk b (Array.getElem?_eq_some_iff.1 hb5).1 (by omega)).trans hb5
    have q3 := (hk (f + 2) (Array.getElem?_eq_some_iff.1 k2).1 (by omega)).trans k2
    refine ⟨?_, ?_, ?_, ?_⟩ <;> simp [World.cell?, q1, q2, q3]
  have hS6 := HS5.out (((w5.drew.setCell ⟨f, 0, none⟩ (.int .i64 (line : Int))).setCell ⟨f, 1, none⟩ (.int .i64 (col : Int))).setCell ⟨f, 2, none⟩ (.int .i64 n)) (fun k _ hne => (heap_setCell_other _ _ _ _ hne).trans ((heap_setCell_other _ _ _ _ hne).trans (heap_setCell_other _ _ _ _ hne)))
  have hbd : ∀ k, k < w5.heap.size → k ≠ f → w5.drew.heap[k]? = w5.heap[k]? := fun _ _ _ => rfl
  have hf7 : FB ((((w5.setCell ⟨f, 0, none⟩ (.int .i64 (line : Int))).setCell ⟨f, 1, none⟩ (.int .i64 (col : Int))).setCell ⟨f, 2, none⟩ (.int .i64 n)).drew) f (.int .i64 (line : Int)) (.int .i64 (col : Int)) (.int .i64 n) := heap_setCell_same _ f 2 _ _ _ (heap_setCell_same _ f 1 _ _ _ (heap_setCell_same w5 f 0 _ _ _ hf5))
  have hld := load_fault hf7
  have hs5 : f ≤ w5.heap.size := by have := (k3 f (by omega)).size; omega
  have HB6 : Hid (Go.RowKit.Below w.heap.size w (((w5.drew.setCell ⟨f, 0, none⟩ (.int .i64 (line : Int))).setCell ⟨f, 1, none⟩ (.int .i64 (col : Int))).setCell ⟨f, 2, none⟩ (.int .i64 n))) := by
    show Go.RowKit.Below _ _ _
    rw [← HFq.out]
    exact (((hB5.trans ((bel_drewN w5 1).mono hs5)).trans (below_setC _ _ (Nat.le_refl _))).trans (below_setC _ _ (Nat.le_refl _))).trans (below_setC _ _ (Nat.le_refl _))
  have g0 := frozen_of_row w5 f 0 _ _ hf5
  have g1 := frozen_of_row w5 f 1 _ _ hf5
  have g2 := frozen_of_row w5 f 2 _ _ hf5
  have c0 : w5.cell? ⟨f, 0, none⟩ = some (.int .i64 0) := by unfold World.cell?; rw [show w5.heap[f]? = _ from hf5]; rfl
  have c1 : w5.cell? ⟨f, 1, none⟩ = some (.int .i64 0) := by unfold World.cell?; rw [show w5.heap[f]? = _ from hf5]; rfl
  have c2 : w5.cell? ⟨f, 2, none⟩ = some (.int .i64 0) := by unfold World.cell?; rw [show w5.heap[f]? = _ from hf5]; rfl
  clear hB4 hs4 hf4 hp4 hn4 hb4 k1 k2 k3 hw5 hbf hf5 hp5 hb5 hB5 hf7 hs5 y0 y1 HA2 HF4
  go_upto_region 6 with fail
  refine wp_region_held_drew (S := fun w' => w'.cell? ⟨f + 1, 0, none⟩ = some (.pointer (some ⟨b, 0, none⟩)) ∧ w'.cell? ⟨b, 0, none⟩ = some (.int .i64 (line : Int)) ∧ w'.cell? ⟨b, 1, none⟩ = some (.int .i64 (col : Int)) ∧ w'.cell? ⟨f + 2, 0, none⟩ = some (.int .i64 n)) (by kernel_rfl) ?_ (fun hHeld => ?_)
  · exact HS5.out _ hbd
  refine wpAnyH_take (i := 0) (v := .pointer (some ⟨b, 0, none⟩)) rfl (by kernel_rfl) (by kernel_rfl) (by kernel_rfl) (fun _ _ _ h => h) (Or.inl ⟨by rfl, by intro w hSw; (try dsimp only at hSw); go_simp⟩) (by assumption) ?_
  refine wpAnyH_take (i := 1) (v := .pointer (some ⟨b, 0, none⟩)) rfl (by kernel_rfl) (by kernel_rfl) (by kernel_rfl) (fun _ _ _ h => h) (Or.inl ⟨by rfl, by intro w hSw; (try dsimp only at hSw); go_simp⟩) (by assumption) ?_
  refine wpAnyH_take (i := 2) (v := .pointer (some ⟨b, 0, none⟩)) rfl (by kernel_rfl) (by kernel_rfl) (by kernel_rfl) (fun _ _ _ h => h) (Or.inl ⟨by rfl, by intro w hSw; (try dsimp only at hSw); go_simp⟩) (by assumption) ?_
  refine wpAnyH_take (i := 3) (v := .int .i64 (line : Int)) rfl (by kernel_rfl) (by kernel_rfl) (by kernel_rfl) (fun _ _ _ h => h) (Or.inl ⟨by rfl, by intro w hSw; (try dsimp only at hSw); go_simp⟩) (by assumption) ?_
  refine wpAnyH_take (i := 4) (v := .pointer (some ⟨b, 0, none⟩)) rfl (by kernel_rfl) (by kernel_rfl) (by kernel_rfl) (fun _ _ _ h => h) (Or.inl ⟨by rfl, by intro w hSw; (try dsimp only at hSw); go_simp⟩) (by assumption) ?_
  refine wpAnyH_take (i := 5) (v := .pointer (some ⟨b, 0, none⟩)) rfl (by kernel_rfl) (by kernel_rfl) (by kernel_rfl) (fun _ _ _ h => h) (Or.inl ⟨by rfl, by intro w hSw; (try dsimp only at hSw); go_simp⟩) (by assumption) ?_
  refine wpAnyH_take (i := 6) (v := .pointer (some ⟨b, 1, none⟩)) rfl (by kernel_rfl) (by kernel_rfl) (by kernel_rfl) (fun _ _ _ h => h) (Or.inl ⟨by rfl, by intro w hSw; (try dsimp only at hSw); go_simp⟩) (by assumption) ?_
  refine wpAnyH_take (i := 7) (v := .int .i64 (col : Int)) rfl (by kernel_rfl) (by kernel_rfl) (by kernel_rfl) (fun _ _ _ h => h) (Or.inl ⟨by rfl, by intro w hSw; (try dsimp only at hSw); go_simp⟩) (by assumption) ?_
  refine wpAnyH_take (i := 8) (v := .int .i64 n) rfl (by kernel_rfl) (by kernel_rfl) (by kernel_rfl) (fun _ _ _ h => h) (Or.inl ⟨by rfl, by intro w hSw; (try dsimp only at hSw); go_simp⟩) (by assumption) ?_
  refine wpAnyH_take (i := 9) (v := .agg #[.int .i64 (line : Int), .int .i64 (col : Int), .int .i64 n]) rfl (by kernel_rfl) (by kernel_rfl) (by kernel_rfl) (fun _ _ _ h => h) (Or.inl ⟨by rfl, by intro w hSw; (try dsimp only at hSw); go_simp⟩) (by assumption) ?_
  refine wpAnyH_ready (rs := [10]) (by kernel_rfl) (by simp) ?_
  refine AllReadyH.cons rfl (fun K hK => ?_) ?_
  · go_simp
    refine hK.out _ _ (by exact hS6) (fun hHeld => ?_)
    clear hK K
    refine wpAnyH_done (by kernel_rfl) ?_ _
    go_wp2_with fail
    refine bodyPost_ret (v := .agg #[.int .i64 (line : Int), .int .i64 (col : Int), .int .i64 n]) ?_ rfl ?_
    · simp [results, Tryz.results6, asAddr, hld]
    · exact ⟨rfl, HB6.out⟩
  exact AllReadyH.nil
end Go.Proofs.YtiiplikmoodfnaaGreatDoor
/-
  THE DOCUMENT's READER: its box; bad, after, more, place.
-/
namespace Go.Proofs.YtiiplikmoodfnaaGreatDoor
open Go.RowKit Go.Sort

/-- what the reader's cells hold -/
structure Rv where
  lib : Value
  names : Value
  opn : Bool
  begun : Nat × Nat
  p : Nums
  code : Value
  name : List UInt8
  nmAt : Nat × Nat
  marks : Value
  uses : Value
  line : Nat
def rcells (r : Rv) : Array Value := #[r.lib, r.names, .bool r.opn, .int .i64 (r.begun.1 : Int), .int .i64 (r.begun.2 : Int), .int .i64 0, .int .i64 r.p.args, .int .i64 r.p.reads, .int .i64 r.p.writes, .int .i64 r.p.locals, r.code, .string (S r.name), .int .i64 (r.nmAt.1 : Int), .int .i64 (r.nmAt.2 : Int), .int .i64 0, r.marks, r.uses, .int .i64 (r.line : Int)]
def RX (W : World) (B : Nat) (r : Rv) : Prop := W.heap[B]? = some (.cells (rcells r) 46 (0, 0))
theorem RX.cell {W : World} {B : Nat} {r : Rv} (h : RX W B r) (j : Nat) : W.cell? ⟨B, j, none⟩ = (rcells r)[j]? := by
  unfold World.cell?
  rw [show W.heap[B]? = _ from h]
  rfl
theorem RX.kept {W W' : World} {B : Nat} {r : Rv} (h : RX W B r) (hb : Go.RowKit.Below W.heap.size W W') : RX W' B r := (hb.block B (Array.getElem?_eq_some_iff.1 h).1).trans h
/-- a fault, as a value -/
abbrev ftv (x y z : Int) : Value := .agg #[.int .i64 x, .int .i64 y, .int .i64 z]
set_option maxRecDepth 100000 in
theorem bad_any (w : World) (B : Nat) (r : Rv) (col e : Int) (h : RX w B r) : Calls Tryz.prog 34 #[.pointer (some ⟨B, 0, none⟩), .int .i64 col, .int .i64 e] w fun en w' => en = .returned (ftv (r.line : Int) col e) ∧ Go.RowKit.Below w.heap.size w w' := by
  obtain ⟨w1, hw1⟩ : ∃ w1, w1 = w.alloc (.cells #[.int .i64 0, .int .i64 0, .int .i64 0] 24) := ⟨_, rfl⟩
  obtain ⟨f, hf⟩ : ∃ f, f = w.heap.size := ⟨_, rfl⟩
  have hb1 : Go.RowKit.Below w.heap.size w w1 := by rw [hw1]; exact bel_al _ _
  have hl := (h.kept hb1).cell 17
  have hl' : w1.cell? ⟨B, 17, none⟩ = some (.int .i64 (r.line : Int)) := hl
  have hF : FB w1 f (.int .i64 0) (.int .i64 0) (.int .i64 0) := by rw [hw1, hf]; exact heap_alloc_new _ _ rfl
  have hF3 : FB (((w1.setCell ⟨f, 0, none⟩ (.int .i64 (r.line : Int))).setCell ⟨f, 1, none⟩ (.int .i64 col)).setCell ⟨f, 2, none⟩ (.int .i64 e)) f (.int .i64 (r.line : Int)) (.int .i64 col) (.int .i64 e) := heap_setCell_same _ f 2 _ _ _ (heap_setCell_same _ f 1 _ _ _ (heap_setCell_same w1 f 0 _ _ _ hF))
  have hld := load_fault hF3
  have HB : Hid (Go.RowKit.Below w.heap.size w (((w1.setCell ⟨f, 0, none⟩ (.int .i64 (r.line : Int))).setCell ⟨f, 1, none⟩ (.int .i64 col)).setCell ⟨f, 2, none⟩ (.int .i64 e))) := ((hb1.trans (below_setC _ _ (Nat.le_of_eq hf.symm))).trans (below_setC _ _ (Nat.le_of_eq hf.symm))).trans (below_setC _ _ (Nat.le_of_eq hf.symm))
  have g0 := frozen_of_row w1 f 0 _ _ hF
  have g1 := frozen_of_row w1 f 1 _ _ hF
  have g2 := frozen_of_row w1 f 2 _ _ hF
  have c0 : w1.cell? ⟨f, 0, none⟩ = some (.int .i64 0) := by unfold World.cell?; rw [show w1.heap[f]? = _ from hF]; rfl
  have c1 : w1.cell? ⟨f, 1, none⟩ = some (.int .i64 0) := by unfold World.cell?; rw [show w1.heap[f]? = _ from hF]; rfl
  have c2 : w1.cell? ⟨f, 2, none⟩ = some (.int .i64 0) := by unfold World.cell?; rw [show w1.heap[f]? = _ from hF]; rfl
  clear h hl hb1 hF hF3
  go_enter Tryz.func34, Tryz.ntmps34
  go_upto_region 1 with fail
  rw [← hw1]
  rw [← hf]
  clear hw1
  clear hf
  go_wp2_with fail
  refine bodyPost_ret (v := ftv (r.line : Int) col e) ?_ rfl ?_
  · simp [results, Tryz.results34, asAddr, hld]
  · exact ⟨rfl, HB.out⟩
theorem after_any (w : World) (t : List UInt8) (col : Nat) (ht : t.length ≤ 65536) (hc : col ≤ 65537) : Calls Tryz.prog 35 #[.agg #[.string (S t), .int .i64 (col : Int)]] w fun e w' => e = .returned (.int .i64 ((col : Int) + (t.length : Int))) ∧ Go.RowKit.Below w.heap.size w w' := by
  have hs : (S t).size = t.length := S_size t
  have HB : Hid (Go.RowKit.Below w.heap.size w (w.alloc (.cells #[.string (S t), .int .i64 (col : Int)] 79))) := bel_al _ _
  generalize S t = s at *
  generalize t.length = n at *
  go_enter Tryz.func35, Tryz.ntmps35
  go_wp2_with fail
  go_ret
  exact ⟨by rfl, HB.out⟩
/-- a word of a line -/
theorem wd_at {W : World} {b off : Nat} {ws : List Wd} (h : ∀ j u, (wcs ws)[j]? = some u → W.cell? ⟨b, off + j, none⟩ = some u) (i : Nat) (hi : i < ws.length) : W.cell? ⟨b, off + i * 2, none⟩ = some (.string (S ws[i].1)) ∧ W.cell? ⟨b, off + i * 2 + 1, none⟩ = some (.int .i64 (ws[i].2 : Int)) := by
  have e : ∀ (ws : List Wd) (i : Nat) (hi : i < ws.length), (wcs ws)[i * 2]? = some (.string (S ws[i].1)) ∧ (wcs ws)[i * 2 + 1]? = some (.int .i64 (ws[i].2 : Int)) := fun ws => by
    induction ws with
    | nil => intro i hi; simp at hi
    | cons x ws ih =>
      intro i hi
      cases i with
      | zero => exact ⟨rfl, rfl⟩
      | succ i =>
        have := ih i (by simpa using hi)
        rw [show (i + 1) * 2 = i * 2 + 1 + 1 by omega]
        exact this
  exact ⟨h _ _ (e ws i hi).1, by have := h _ _ (e ws i hi).2; rw [← Nat.add_assoc] at this; exact this⟩
/-- a fault is stored into its cell -/
theorem ft_facts {W : World} {f : Nat} {a b c : Value} (h : FB W f a b c) : (W.frozen? ⟨f, 0, none⟩ = false ∧ W.frozen? ⟨f, 1, none⟩ = false ∧ W.frozen? ⟨f, 2, none⟩ = false) ∧ (W.cell? ⟨f, 0, none⟩ = some a ∧ W.cell? ⟨f, 1, none⟩ = some b ∧ W.cell? ⟨f, 2, none⟩ = some c) ∧ (∀ x y z : Value, FB (((W.setCell ⟨f, 0, none⟩ x).setCell ⟨f, 1, none⟩ y).setCell ⟨f, 2, none⟩ z) f x y z) := by
  refine ⟨⟨frozen_of_row W f 0 _ _ h, frozen_of_row W f 1 _ _ h, frozen_of_row W f 2 _ _ h⟩, ⟨?_, ?_, ?_⟩, fun x y z => heap_setCell_same _ f 2 _ _ _ (heap_setCell_same _ f 1 _ _ _ (heap_setCell_same W f 0 _ _ _ h))⟩
  · unfold World.cell?; rw [show W.heap[f]? = _ from h]; rfl
  · unfold World.cell?; rw [show W.heap[f]? = _ from h]; rfl
  · unfold World.cell?; rw [show W.heap[f]? = _ from h]; rfl
theorem ft_below {W : World} {f B : Nat} (h : B ≤ f) (x y z : Value) : Go.RowKit.Below B W (((W.setCell ⟨f, 0, none⟩ x).setCell ⟨f, 1, none⟩ y).setCell ⟨f, 2, none⟩ z) := ((below_setC _ _ h).trans (below_setC _ _ h)).trans (below_setC _ _ h)
/-- is there a word too many? -/
def moreE (ws : List Wd) (n : Nat) : Option Er := match ws[n]? with
  | none => none
  | some x => some (x.2, 40)
def moreV (line : Nat) : Option Er → Value
  | none => ftv 0 0 0
  | some e => ftv (line : Int) (e.1 : Int) e.2
set_option maxRecDepth 100000 in
theorem more_any (w : World) (B : Nat) (r : Rv) (b off n wc k : Nat) (ws : List Wd) (h : RX w B r) (hc : ∀ j u, (wcs ws)[j]? = some u → w.cell? ⟨b, off + j, none⟩ = some u) (hn : n = ws.length) : Calls Tryz.prog 37 #[.pointer (some ⟨B, 0, none⟩), .slice (some ⟨b, off, none⟩) n wc, .int .i64 (k : Int)] w fun en w' => en = .returned (moreV r.line (moreE ws k)) ∧ Go.RowKit.Below w.heap.size w w' := by
  obtain ⟨w1, hw1⟩ : ∃ w1, w1 = w.alloc (.cells #[.int .i64 0, .int .i64 0, .int .i64 0] 24) := ⟨_, rfl⟩
  obtain ⟨f, hf⟩ : ∃ f, f = w.heap.size := ⟨_, rfl⟩
  have hb1 : Go.RowKit.Below w.heap.size w w1 := by rw [hw1]; exact bel_al _ _
  have hF : FB w1 f (.int .i64 0) (.int .i64 0) (.int .i64 0) := by rw [hw1, hf]; exact heap_alloc_new _ _ rfl
  have hfl : f < w1.heap.size := (Array.getElem?_eq_some_iff.1 hF).1
  have HB1 := hidA hb1
  have HFs := hidA hf
  by_cases hkn : k < n
  · have hk' : k < ws.length := by omega
    have HE : Hid (moreV r.line (moreE ws k) = ftv (r.line : Int) (ws[k].2 : Int) 40) := by rw [Hid]; unfold moreE; rw [List.getElem?_eq_getElem hk']; rfl
    have hcw := (wd_at hc k hk').2
    have hcw1 := (hb1.cell (p := ⟨b, off + k * 2 + 1, none⟩) (cell_lt hcw)).trans hcw
    have HBd := hidA (bad_any w1 B r (ws[k].2 : Int) 40 (h.kept hb1))
    generalize ((ws[k].2 : Nat) : Int) = col at *
    have HF := hidA hF
    have HFl := hidA hfl
    clear hF hb1 hcw hc h hn hk' hfl
    go_enter Tryz.func37, Tryz.ntmps37
    go_upto_region 1 with fail
    rw [← hw1, ← hf]
    clear hw1 hf
    go_wp2_with fail
    refine HBd.out.mono ?_
    rintro e w2 ⟨rfl, hb2⟩
    have hF2 : FB w2 f (.int .i64 0) (.int .i64 0) (.int .i64 0) := (hb2.block f HFl.out).trans HF.out
    obtain ⟨⟨g0, g1, g2⟩, ⟨c0, c1, c2⟩, hst⟩ := ft_facts hF2
    have hld := load_fault (hst (.int .i64 (r.line : Int)) (.int .i64 col) (.int .i64 40))
    have HX : Hid (Go.RowKit.Below w.heap.size w (((w2.setCell ⟨f, 0, none⟩ (.int .i64 (r.line : Int))).setCell ⟨f, 1, none⟩ (.int .i64 col)).setCell ⟨f, 2, none⟩ (.int .i64 40))) := (HB1.out.trans (hb2.mono HB1.out.size)).trans (ft_below (Nat.le_of_eq HFs.out.symm) _ _ _)
    clear hb2 hF2 hst HBd HF HFl hcw1
    go_wp2_with fail
    refine bodyPost_ret (v := ftv (r.line : Int) col 40) ?_ rfl ?_
    · simp [results, Tryz.results37, asAddr, hld]
    · exact ⟨by rw [HE.out], HX.out⟩
  · have HE : Hid (moreV r.line (moreE ws k) = ftv 0 0 0) := by rw [Hid]; unfold moreE; rw [List.getElem?_eq_none (by omega)]; rfl
    obtain ⟨⟨g0, g1, g2⟩, ⟨c0, c1, c2⟩, hst⟩ := ft_facts hF
    have hld := load_fault (hst (.int .i64 0) (.int .i64 0) (.int .i64 0))
    have HX : Hid (Go.RowKit.Below w.heap.size w (((w1.setCell ⟨f, 0, none⟩ (.int .i64 0)).setCell ⟨f, 1, none⟩ (.int .i64 0)).setCell ⟨f, 2, none⟩ (.int .i64 0))) := hb1.trans (ft_below (Nat.le_of_eq hf.symm) _ _ _)
    clear hF hb1 hc h hn hfl hst
    go_enter Tryz.func37, Tryz.ntmps37
    go_upto_region 1 with fail
    rw [← hw1, ← hf]
    clear hw1 hf
    go_wp2_with fail
    refine bodyPost_ret (v := ftv 0 0 0) ?_ rfl ?_
    · simp [results, Tryz.results37, asAddr, hld]
    · exact ⟨by rw [HE.out], HX.out⟩
def plV (ls : List (List UInt8 × Nat)) (nm : List UInt8) : Int := match labN ls nm with
  | none => -1
  | some t => (t : Int)
theorem labN_hit {ls : List (List UInt8 × Nat)} {nm : List UInt8} : ∀ {k : Nat} (hk : k < ls.length), (∀ j (hj : j < k), (ls[j]'(by omega)).1 ≠ nm) → ls[k].1 = nm → labN ls nm = some ls[k].2 := by
  induction ls with
  | nil => intro k hk; simp at hk
  | cons x ls ih =>
    intro k hk hn he
    cases k with
    | zero =>
      have he' : x.1 = nm := he
      unfold labN
      rw [List.find?_cons_of_pos (by simp [he'])]
      rfl
    | succ k =>
      have h0 : x.1 ≠ nm := hn 0 (by omega)
      have := ih (k := k) (by simpa using hk) (fun j hj => by have := hn (j + 1) (by omega); simpa using this) (by simpa using he)
      unfold labN at this ⊢
      rw [List.find?_cons_of_neg (by simp [h0])]
      simpa using this
theorem labN_miss {ls : List (List UInt8 × Nat)} {nm : List UInt8} (h : ∀ j (hj : j < ls.length), ls[j].1 ≠ nm) : labN ls nm = none := by
  unfold labN
  rw [List.find?_eq_none.2 (fun x hx => by obtain ⟨j, hj, e⟩ := List.getElem_of_mem hx; have := h j hj; rw [e] at this; simp [this])]
  rfl
set_option maxRecDepth 100000 in
set_option maxHeartbeats 1000000 in
theorem place_any (w : World) (B : Nat) (r : Rv) (mo : Option Addr) (ml mc : Nat) (ls : List (List UInt8 × Nat)) (nm : List UInt8) (h : RX w B r) (hm : r.marks = .slice mo ml mc) (hc : CellsAt w mo (wcs ls)) (hl : ml = ls.length) (hs : ml ≤ 65537) : Calls Tryz.prog 38 #[.pointer (some ⟨B, 0, none⟩), .string (S nm)] w fun e w' => e = .returned (.int .i64 (plV ls nm)) ∧ w' = w := by
  have h15 : w.cell? ⟨B, 15, none⟩ = some (.slice mo ml mc) := by rw [h.cell 15, ← hm]; rfl
  have HC := hidA hc
  have HL := hidA hl
  have HTl : Hid ((S nm).toList = nm) := S_toList nm
  obtain ⟨nx, hnx⟩ : ∃ nx, nx = S nm := ⟨_, rfl⟩
  rw [← hnx] at HTl ⊢
  clear h hm hc hl hnx
  go_enter Tryz.func38, Tryz.ntmps38
  go_wp2_with fail
  go_loop [5] (fun x => ∃ k : Nat, k ≤ ml ∧ x = .int .i64 (k : Int) ∧ Hid (∀ j (hj : j < ls.length), j < k → ls[j].1 ≠ nm)) (fun x => ml - (intOf x).toNat)
  case atStart => exact ⟨0, Nat.zero_le _, rfl, fun j hj h => by omega⟩
  case round =>
    obtain ⟨k, hk, rfl, HN⟩ := hrel
    by_cases hlt : k < ml
    · have hk' : k < ls.length := by have := HL.out; omega
      rcases HC.out with e | ⟨b, off, rfl, hcs⟩
      · exfalso
        have := wcs_len ls
        rw [e] at this
        simp at this
        omega
      obtain ⟨d0, d1⟩ := wd_at hcs k hk'
      have HT2 : Hid ((S ls[k].1).toList = ls[k].1) := S_toList _
      by_cases he : ls[k].1 = nm
      · have HP : Hid (plV ls nm = (ls[k].2 : Int)) := by
          rw [Hid]; unfold plV; rw [labN_hit hk' (fun j hj => HN.out j (by omega) hj) he]
        have hb : ((S ls[k].1).toList == nx.toList) = true := by rw [HT2.out, HTl.out, he]; simp
        generalize S ls[k].1 = sk at *
        generalize ((ls[k].2 : Nat) : Int) = tk at *
        clear he HN hcs HT2
        go_wp2_with fail
        go_ret
        exact ⟨by rw [HP.out]; rfl, rfl⟩
      · have HN2 : Hid (∀ j (hj : j < ls.length), j < k + 1 → ls[j].1 ≠ nm) := fun j hj h => by
          by_cases e : j = k
          · subst e; exact he
          · exact HN.out j hj (by omega)
        have hb : ((S ls[k].1).toList == nx.toList) = false := by rw [HT2.out, HTl.out]; simpa using he
        generalize S ls[k].1 = sk at *
        generalize ((ls[k].2 : Nat) : Int) = tk at *
        clear he HN hcs HT2
        go_wp2_with fail
        go_round
        case rel => exact ⟨k + 1, by omega, by go_num, HN2⟩
        case measure => simp [intOf]; omega
    · have HP : Hid (plV ls nm = -1) := by
        rw [Hid]; unfold plV; rw [labN_miss (fun j hj => HN.out j hj (by have := HL.out; omega))]
      clear HN HC
      go_wp2_with fail
      go_ret
      exact ⟨by rw [HP.out]; rfl, rfl⟩
end Go.Proofs.YtiiplikmoodfnaaGreatDoor
/-
  A REGION THAT DRAWS ITS ORDER AND ONLY READS, IN THE ROUND OF A LOOP OVER A FUNCTION: as outside a round, where no operation is a defer.
-/
namespace Go.Proofs.YtiiplikmoodfnaaGreatDoor
open Go.RowKit Go.Sort

def noDefer (o : Oper) : Bool := match o.op with
  | .defer _ => false
  | _ => true
theorem noDefer_ne {o : Oper} (h : noDefer o = true) : ∀ c, o.op ≠ .defer c := by
  intro c e
  unfold noDefer at h
  rw [e] at h
  simp at h
theorem wpIn_round {F : Fence} {n l : Nat} {P : Program} {o : Oper} {a : Act} {w : World} {K : Act → World → Prop} {Q : Exit → Act → World → Prop} (hro : F.round = none) (hd : noDefer o = true) (h : o.wpIn F n P a w K Q) : o.wpIn (F.inRound l) n P a w K Q := by
  obtain ⟨h1, h2⟩ := h
  refine ⟨h1, ?_⟩
  rw [hro, Oper.semAt_none] at h2
  rw [Fence.inRound_round, Oper.semAt_some l _ _ (noDefer_ne hd)]
  generalize (execOp a.eval o).run P w = r at *
  cases r with
  | ok x w' => cases x <;> exact h2
  | halt x w' => cases x <;> exact h2
theorem wpAny_round {F : Fence} {n l : Nat} {P : Program} {md : Region.Mode} {ops : Array Oper} {Q : Exit → Act → World → Prop} (hro : F.round = none) (hd : ops.all noDefer = true) :
    ∀ (fuel : Nat) (listed : Array Bool) (a : Act) (w : World), wpAnyIn F n P md ops Q fuel listed a w → wpAnyIn (F.inRound l) n P md ops Q fuel listed a w
  | 0, _, _, _, h => h
  | fuel + 1, listed, a, w, h => ⟨h.1, fun i hi => by
    have h2 := h.2 i hi
    unfold wpOpIn at h2 ⊢
    cases ho : ops[i]? with
    | none => rw [ho] at h2; exact wpAny_round hro hd fuel _ _ _ h2
    | some o =>
      rw [ho] at h2
      have hn : noDefer o = true := by
        have h3 := Array.all_eq_true.1 hd
        obtain ⟨hlt, he⟩ := Array.getElem?_eq_some_iff.1 ho
        rw [← he]; exact h3 i hlt
      simp only at h2 ⊢
      split
      · rename_i hw
        rw [if_pos hw] at h2
        exact wpIn_round hro hn (Oper.wpIn_mono (fun a w hk => wpAny_round hro hd fuel _ a w hk) h2)
      · rename_i hw
        rw [if_neg hw] at h2
        exact ⟨h2.1, wpAny_round hro hd fuel _ _ _ h2.2⟩⟩
theorem region_round {F : Fence} {n l : Nat} {P : Program} {id : Nat} {Q : Exit → Act → World → Prop} {a : Act} {w : World} {ops : List Oper} (hro : F.round = none) (hm : P.follows .mixedOrders = true) (hB : Region.lexB .any ops.toArray = true) (hd : ops.toArray.all noDefer = true)
    (h : wpQuietIn F n P ops.toArray (fun w' => ∃ n, w' = w.drewN n) (fun a' => ∀ w', (∃ n, w' = w.drewN n) → Q .normal a' w') ops a) : (Code.region id ops.toArray true).wpIn (F.inRound l) n P Q a w := by
  simp only [Region.lexB, Bool.and_eq_true] at hB
  refine wpIn_region_any hm (wpAny_round hro hd _ _ _ _ (wpAnyIn_of_quiet (Q := fun a' => ∀ w', (∃ n, w' = w.drewN n) → Q .normal a' w') hro (fun _ w' hw' h => h w' hw') _ _ _ _ ⟨1, rfl⟩ ?_))
  have := wpAnyQIn_lex (F := F) (n := n) (C := fun w' => ∃ n, w' = w.drewN n) (md := .any) hB.1 ops 0 (Array.replicate ops.toArray.size false) a (by simp) (by simpa using hB.2) h
  simpa using this

/-- a loop over a function, whichever way it ends: what holds behind it -/
theorem loop_cut {F : Fence} {n : Nat} {P : Program} {c : Code} {Q : Exit → Act → World → Prop} {a : Act} {w : World} (id : Nat) (Post : World → Prop) (hex : ∀ a w, Q .normal a w → Q (.exit id) a w)
    (h : c.wpIn F n P (fun e a' w' => (e = .normal ∨ e = .exit id) ∧ ∃ D, w.heap.size ≤ D ∧ a' = { a with defers := { target := .collected D, args := #[] } :: a.defers } ∧ Post w' ∧ w'.heap[D]? = some (.deferred (some []))) a w)
    (hk : ∀ D W, w.heap.size ≤ D → Post W → W.heap[D]? = some (.deferred (some [])) → Q .normal { a with defers := { target := .collected D, args := #[] } :: a.defers } W) : c.wpIn F n P Q a w := by
  refine Code.wpIn_mono ?_ h
  rintro e a' w' ⟨he, D, hD, rfl, hp, hd⟩
  rcases he with rfl | rfl
  · exact hk D w' hD hp hd
  · exact hex _ _ (hk D w' hD hp hd)
end Go.Proofs.YtiiplikmoodfnaaGreatDoor
/-
  slices.Backward: THE ITERATOR FROM THE BACK.
-/
namespace Go.Proofs.YtiiplikmoodfnaaGreatDoor
open Go.RowKit Go.Sort Go.Shelf

attribute [local go_sem] Oper.semAt_some

/-- a place within m -/
def cl (m i : Nat) : Nat := min i (m - 1)
theorem cl_lt {m i : Nat} (h : 0 < m) : cl m i < m := by unfold cl; omega
theorem cl_of {m i : Nat} (h : i < m) : cl m i = i := by unfold cl; omega
/-- the last k places, from the back -/
def dn (m k : Nat) : List Nat := (List.range k).map (fun j => m - 1 - j)
theorem dn_succ (m k : Nat) : dn m (k + 1) = dn m k ++ [m - 1 - k] := by simp [dn, List.range_succ]
theorem dn_length (m k : Nat) : (dn m k).length = k := by simp [dn]
/-- what is handed on at a place -/
abbrev encP (m : Nat) (L : List K) (i : Nat) : Array Value := #[.int .i64 ((cl m i : Nat) : Int), .agg #[.int .i64 (cd L (cl m i)).1, .int .i64 (cd L (cl m i)).2]]

/-- what a round leaves: all below n₀, and the box -/
def KB (n₀ Bs : Nat) (A B : World) : Prop := Below n₀ A B ∧ B.heap[Bs]? = A.heap[Bs]?
theorem KB.refl (n₀ Bs : Nat) (A : World) : KB n₀ Bs A A := ⟨Below.refl _ _, rfl⟩
theorem KB.trans {n₀ Bs : Nat} {A B C : World} (h : KB n₀ Bs A B) (k : KB n₀ Bs B C) : KB n₀ Bs A C := ⟨h.1.trans k.1, k.2.trans h.2⟩
theorem KB.cell {n₀ Bs : Nat} {A B : World} (h : KB n₀ Bs A B) (i : Nat) : B.cell? ⟨Bs, i, none⟩ = A.cell? ⟨Bs, i, none⟩ := by simp only [World.cell?, h.2]

end Go.Proofs.YtiiplikmoodfnaaGreatDoor
/-
  THE LONGEST WAYS: what the loop keeps.
-/
namespace Go.Proofs.YtiiplikmoodfnaaGreatDoor
open Go.RowKit Go.Sort Go.Shelf

attribute [local go_sem] Oper.semAt_some

/-- the walk over one instruction: from what stands at its own place on -/
def mostW (m : List Int) (k : K) (i : Nat) : Int := (nextN i k.1 k.2).foldl (fun a t => max a (m.getD t 0)) (m.getD i 0) + 1
def stepM (L : List K) (m : List Int) (i : Nat) : List Int := m.set i (mostW m (cd L i) i)

theorem most_length (L : List K) (k : Nat) : (mostN L k).length = L.length + 1 := by
  induction k with
  | zero => simp [mostN]
  | succ k ih => rw [mostN, List.length_set, ih]
theorem most_zero (L : List K) (k i : Nat) (h : i + k < L.length) : (mostN L k).getD i 0 = 0 := by
  induction k with
  | zero => simp [mostN, List.getD_eq_getElem?_getD, List.getElem?_replicate]; split <;> rfl
  | succ k ih =>
    rw [mostN, getD_set _ _ _ _ (by rw [most_length]; omega), if_neg (by omega)]
    exact ih (by omega)
theorem most_step (L : List K) (k : Nat) (h : k < L.length) : mostN L (k + 1) = stepM L (mostN L k) (L.length - 1 - k) := by
  rw [mostN, stepM, mostW, most_zero L k _ (by omega), mostV]
def foldM (m : List Int) (nx : List Nat) (a : Int) : Int := nx.foldl (fun a t => max a (m.getD t 0)) a
theorem foldM_cons (m : List Int) (t : Nat) (nx : List Nat) (a : Int) : foldM m (t :: nx) a = foldM m nx (max a (m.getD t 0)) := rfl
/-- from 0 to b -/
def Few (m : List Int) (b : Int) : Prop := ∀ j, j < m.length → 0 ≤ m.getD j 0 ∧ m.getD j 0 ≤ b
theorem Few.mono {m : List Int} {b c : Int} (h : Few m b) (hc : b ≤ c) : Few m c := fun j hj => ⟨(h j hj).1, Int.le_trans (h j hj).2 hc⟩
theorem Few.set {m : List Int} {b x : Int} (h : Few m b) (i : Nat) (hx : 0 ≤ x ∧ x ≤ b) : Few (m.set i x) b := by
  intro j hj
  rw [List.length_set] at hj
  rw [getD_set m i j x hj]
  split
  · exact hx
  · exact h j hj
theorem foldM_few {m : List Int} {b : Int} (h : Few m b) (nx : List Nat) (hn : ∀ t ∈ nx, t < m.length) (a : Int) (ha : 0 ≤ a ∧ a ≤ b) : 0 ≤ foldM m nx a ∧ foldM m nx a ≤ b := by
  induction nx generalizing a with
  | nil => exact ha
  | cons t nx ih =>
    rw [foldM_cons]
    have h1 := h t (hn t (by simp))
    exact ih (fun t' ht => hn t' (by simp [ht])) _ (by omega)
/-- what stands while the loop runs -/
structure LI (W5 W : World) (g Bm Bs n cap : Nat) (ao : Option Addr) (m : List Int) : Prop where
  row : RowI W g m
  bm : Boxed W Bm 120 (.slice (some ⟨g, 0, none⟩) (n + 1) (n + 1))
  bs : Boxed W Bs 40 (.slice ao n cap)
  bel : Below g W5 W
theorem LI.keep {W5 W W' : World} {g Bm Bs n cap : Nat} {ao : Option Addr} {m : List Int} (h : LI W5 W g Bm Bs n cap ao m) (hk : ∀ k, k = g ∨ k = Bm ∨ k = Bs → W'.heap[k]? = W.heap[k]?) (hb : Below g W W') : LI W5 W' g Bm Bs n cap ao m :=
  ⟨(hk g (.inl rfl)).trans h.row, (hk Bm (.inr (.inl rfl))).trans h.bm, (hk Bs (.inr (.inr rfl))).trans h.bs, h.bel.trans hb⟩
theorem LI.kept {W5 W W' : World} {g Bm Bs n cap : Nat} {ao : Option Addr} {m : List Int} (h : LI W5 W g Bm Bs n cap ao m) (hb : Below W.heap.size W W') : LI W5 W' g Bm Bs n cap ao m :=
  h.keep (fun k hk => hb.block k (by rcases hk with rfl | rfl | rfl; exact h.row.lt; exact h.bm.lt; exact h.bs.lt)) (hb.mono (Nat.le_of_lt h.row.lt))
theorem LI.set {W5 W : World} {g Bm Bs n cap : Nat} {ao : Option Addr} {m : List Int} (h : LI W5 W g Bm Bs n cap ao m) (i : Nat) (z : Int) (h1 : Bm ≠ g) (h2 : Bs ≠ g) : LI W5 (W.setCell ⟨g, i, none⟩ (.int .i64 z)) g Bm Bs n cap ao (m.set i z) :=
  ⟨h.row.set i z, (heap_setCell_other W ⟨g, i, none⟩ Bm _ h1).trans h.bm, (heap_setCell_other W ⟨g, i, none⟩ Bs _ h2).trans h.bs, below_set h.bel _ _ (Nat.le_refl _)⟩
theorem LI.drewN {W5 W : World} {g Bm Bs n cap : Nat} {ao : Option Addr} {m : List Int} (h : LI W5 W g Bm Bs n cap ao m) (q : Nat) : LI W5 (W.drewN q) g Bm Bs n cap ao m := h.kept ⟨rfl, rfl, rfl, Nat.le_refl _, fun _ _ => rfl⟩
theorem keeps_below {W W' : World} (hb : Below W.heap.size W W') : KeepsOthers W W' := ⟨hb.size, fun _ _ h _ => (hb.block _ (Array.getElem?_eq_some_iff.1 h).1).trans h⟩
theorem KB.ofBelow {n₀ Bs : Nat} {A B : World} (h : Below A.heap.size A B) (h1 : n₀ ≤ A.heap.size) (h2 : Bs < A.heap.size) : KB n₀ Bs A B := ⟨h.mono h1, h.block Bs h2⟩
theorem KB.set {n₀ Bs g i : Nat} {A : World} (v : Value) (h1 : n₀ ≤ g) (h2 : Bs ≠ g) : KB n₀ Bs A (A.setCell ⟨g, i, none⟩ v) := ⟨below_set (Below.refl _ _) _ _ h1, heap_setCell_other A ⟨g, i, none⟩ Bs v h2⟩
theorem KB.put {n₀ Bs B : Nat} (h1 : n₀ ≤ B) (h2 : Bs < B) (W : World) (l : Nat) (o o' : Obj) (hl : B ≤ l) (_ : W.heap[l]? = some o) (_ : o.isCells = false) (_ : o.isWalk = false) : KB n₀ Bs W (W.putObj l o') :=
  ⟨⟨rfl, rfl, rfl, (grownBy_putObj' W l o').size, fun k hk => by by_cases hlt : k < W.heap.size
                                                                 · exact (grownBy_putObj' W l o').block k hlt (by simp; omega)
                                                                 · have := (grownBy_putObj' W l o').size; simp [World.putObj, Array.getElem?_eq_none_iff.2 (Nat.le_of_not_lt hlt)]; omega⟩,
   by by_cases hlt : Bs < W.heap.size
      · exact (grownBy_putObj' W l o').block Bs hlt (by simp; omega)
      · simp [World.putObj, Array.getElem?_eq_none_iff.2 (Nat.le_of_not_lt hlt)]; omega⟩
/-- the beginnings of the loop -/
def Chn (n : Nat) (pre : List Nat) : Prop := pre = dn n pre.length
theorem chn_snoc {n x : Nat} {pre : List Nat} (h : Chn n (pre ++ [x])) : Chn n pre ∧ x = n - 1 - pre.length := by
  unfold Chn at *
  rw [List.length_append, List.length_singleton, dn_succ] at h
  have h1 := List.append_inj' h rfl
  exact ⟨h1.1, by simpa using h1.2⟩
theorem chn_dn (n k : Nat) : Chn n (dn n k) := by unfold Chn; rw [dn_length]
def LInv (W5 : World) (g Bm Bs n cap : Nat) (ao : Option Addr) (L : List K) (pre : List Nat) (W : World) : Prop :=
  ∃ m, LI W5 W g Bm Bs n cap ao m ∧ m.length = n + 1 ∧ Few m (pre.length : Int) ∧ (Chn n pre → m = mostN L pre.length)

theorem set_self (m : List Int) (i : Nat) : m.set i (m.getD i 0) = m := by
  apply List.ext_getElem?
  intro j
  rw [List.getElem?_set]
  by_cases h : i = j
  · subst h
    by_cases hl : i < m.length
    · simp [hl, List.getD_eq_getElem?_getD]
    · simp [hl]
  · simp [h]
theorem verify_ok {p : Nums} {L : List K} (h : verifyN p L = 0) : limB p L.length = true ∧ lookAll p L L.length = 0 ∧ ∃ d, runD L L.length = some d ∧ depthsN p L = (d, 0) := by
  unfold verifyN depthsN at h
  unfold depthsN
  cases hl : limB p L.length with
  | false => rw [hl] at h; simp at h
  | true =>
    rw [hl, if_neg (by simp)] at h
    rw [if_neg (by simp)]
    by_cases h0 : lookAll p L L.length ≠ 0
    · rw [if_pos h0] at h; exact absurd h h0
    · rw [if_neg h0] at h ⊢
      cases hr : runD L L.length with
      | none => rw [hr] at h; simp at h
      | some d => exact ⟨rfl, by simpa using h0, d, rfl, rfl⟩

end Go.Proofs.YtiiplikmoodfnaaGreatDoor
