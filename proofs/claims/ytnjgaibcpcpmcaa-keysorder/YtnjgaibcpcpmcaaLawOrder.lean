/-
  THE WALK OF KeysOrder.
-/
import Derived.Test.YtnjgaibcpcpmcaaKWalk
namespace Go.Proofs.Ytnjgaibcpcpmcaa
open Go.RowKit Go.Sort

/-- a key that was boxed: its cells, in every world that has grown -/
theorem boxed {w : World} {b : Nat} {x y : Int} (h : w.heap[b]? = some (.cells #[.int .i64 x, .int .i64 y] 23 (0, 0))) (n : Nat) (os : Array Obj) :
    (grow (w.drewN n) os).cell? ⟨b, 0, none⟩ = some (.int .i64 x) ∧ (grow (w.drewN n) os).cell? ⟨b, 1, none⟩ = some (.int .i64 y) := by
  have hb : b < w.heap.size := (Array.getElem?_eq_some_iff.1 h).1
  constructor
  · exact cell_grown hb (by simp [World.cell?, h]) n os
  · exact cell_grown hb (by simp [World.cell?, h]) n os

set_option maxHeartbeats 1000000 in
set_option maxRecDepth 100000 in
theorem order_walk (w : World) (a1 a2 b1 b2 : Int) :
    Calls Try.prog 3 #[.agg #[.int .i64 a1, .int .i64 a2], .agg #[.int .i64 b1, .int .i64 b2]] w fun e w' => e = .returned (.bool true) ∧ Below w.heap.size w w' := by
  have mx := mixed
  go_enter Try.func3, Try.ntmps3
  go_wp2_with fail
  have HG : Hid (Below w.heap.size w ((w.alloc (.cells #[.int .i64 a1, .int .i64 a2] 23)).alloc (.cells #[.int .i64 b1, .int .i64 b2] 23))) := ((Grew.alloc (Grew.refl _) _).alloc _).below
  have k0 : ((w.alloc (.cells #[.int .i64 a1, .int .i64 a2] 23)).alloc (.cells #[.int .i64 b1, .int .i64 b2] 23)).heap[w.heap.size]? = some (.cells #[.int .i64 a1, .int .i64 a2] 23 (0, 0)) := by rw [heap_alloc_old _ _ (by simp), heap_alloc_new _ _ rfl]
  have k1 : ((w.alloc (.cells #[.int .i64 a1, .int .i64 a2] 23)).alloc (.cells #[.int .i64 b1, .int .i64 b2] 23)).heap[w.heap.size + 1]? = some (.cells #[.int .i64 b1, .int .i64 b2] 23 (0, 0)) := heap_alloc_new _ _ (by simp)
  generalize (w.alloc (.cells #[.int .i64 a1, .int .i64 a2] 23)).alloc (.cells #[.int .i64 b1, .int .i64 b2] 23) = W at *
  have c0 := fun n os => (boxed k0 n os).1
  have c1 := fun n os => (boxed k0 n os).2
  have c2 := fun n os => (boxed k1 n os).1
  have c3 := fun n os => (boxed k1 n os).2
  clear k0 k1
  refine wp_region_quiet_grown mx (by kernel_rfl) ?_
  repeat (go_big_quiet_step (first
    | (go_at_call 8; exact Calls.grown_of ((num_any _ _).mono fun e w' h => ⟨h.1, 0, #[], by rw [h.2, grow_empty]; rfl⟩))
    | (go_at_call 9; exact Calls.grown_of (check_any _ _ _))
    | (go_at_call 10; exact Calls.grown_of (refCheck_any _ _ _))
    | (go_at_call 11; exact Calls.grown_of (compare_any _ _ _ _ _))
    | (go_at_call 12; exact Calls.grown_of (refCompare_any _ _ _ _ _))))
  refine wpQuiet_nil ?_
  intro _ hw'
  obtain ⟨⟨nq, osq⟩, hw''⟩ := hw'
  subst hw''
  go_wp2
  go_ret
  exact ⟨rfl, HG.out.trans (Grew.below ⟨_, _, rfl⟩ |>.mono HG.out.size)⟩

end Go.Proofs.Ytnjgaibcpcpmcaa
