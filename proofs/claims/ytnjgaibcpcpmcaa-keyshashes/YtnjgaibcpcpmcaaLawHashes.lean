/-
  THE WALK OF KeysHashes.
-/
import Derived.Test.YtnjgaibcpcpmcaaHash
namespace Go.Proofs.Ytnjgaibcpcpmcaa
open Go.RowKit Go.Sort

set_option maxHeartbeats 1000000 in
set_option maxRecDepth 100000 in
theorem hashes_walk (w : World) (t r p : Int) (hr : In64 r) :
    Calls Try.prog 5 #[.agg #[.int .i64 t, .int .i64 r], .int .i64 p] w fun e w' => e = .returned (.bool true) ∧ Below w.heap.size w w' := by
  have mx := mixed
  have HP : Hid _ := fun w => partition_any w t r p hr
  have HR : Hid _ := fun w => refPartition_any w t r p hr
  have HH : Hid _ := fun w => hash_any w t r hr
  have HI : Hid _ := fun w => refHash_any w t r hr
  generalize partV (t, r) p = v at *
  generalize partE (t, r) p = ev at *
  generalize hash (t, r) = hv at *
  clear hr
  go_enter Try.func5, Try.ntmps5
  go_wp2_with fail
  have B0 : Hid (Box (w.alloc (.cells #[.int .i64 t, .int .i64 r] 23)) w.heap.size t r) := Box.new rfl
  have HG : Hid (Grew w (w.alloc (.cells #[.int .i64 t, .int .i64 r] 23))) := (Grew.refl _).alloc _
  generalize w.alloc (.cells #[.int .i64 t, .int .i64 r] 23) = W at *
  refine (HP.out W).mono ?_
  rintro e w1 ⟨rfl, g1⟩
  have B1 : Hid (Box w1 w.heap.size t r) := B0.out.grew g1
  have HG1 : Hid (Grew w w1) := HG.out.trans g1
  clear g1 HP B0 HG
  obtain ⟨p1, p2⟩ := B1.out
  go_wp2_with fail
  refine (HR.out w1).mono ?_
  rintro e w2 ⟨rfl, g2⟩
  have B2 : Hid (Box w2 w.heap.size t r) := B1.out.grew g2
  have HG2 : Hid (Grew w w2) := HG1.out.trans g2
  clear g2 HR p1 p2 B1 HG1
  have c0 := fun n os => cell_grown (cell_lt B2.out.1) B2.out.1 n os
  have c1 := fun n os => cell_grown (cell_lt B2.out.2) B2.out.2 n os
  go_wp2_with fail
  refine wp_region_quiet_grown mx (by kernel_rfl) ?_
  repeat (go_big_quiet_step (first
    | (go_at_call 8; exact Calls.grown_of ((num_any _ _).mono fun e w' h => ⟨h.1, 0, #[], by rw [h.2, grow_empty]; rfl⟩))
    | (go_at_call 21; exact Calls.grown_of (HH.out _))
    | (go_at_call 22; exact Calls.grown_of (HI.out _))))
  refine wpQuiet_nil ?_
  intro _ hw'
  obtain ⟨⟨nq, osq⟩, hw''⟩ := hw'
  subst hw''
  go_wp2
  go_ret
  exact ⟨rfl, (HG2.out.grow _ _).below⟩

end Go.Proofs.Ytnjgaibcpcpmcaa
