/-
  Part, WHERE keys.Hash IS THE HASH FUNCTION.
-/
import Derived.Test.YtfkijdlggdgfhaaCPut2
import Derived.Test.YtfkijdlggdgfhaaHash
namespace Go.Proofs.Ytfkijdlggdgfhaa
open Go.RowKit Go.Sort

set_option maxRecDepth 100000 in
set_option maxHeartbeats 1000000 in
theorem part_hash (w : World) (D M L P : Nat) (es : List En) (k : K) (hkin : KIn k) (h : DA w D M L (hfn 35) P es) :
    Calls Try.prog 60 #[ptr D, kv k] w fun e w' => e = .returned (.int .i64 ((hash k % P : Nat) : Int)) ∧ Below w.heap.size w w' := by
  obtain ⟨k1, k2⟩ := k
  have HB1 : Hid (Below w.heap.size w (w.alloc (.cells #[.int .i64 k1, .int .i64 k2] 28))) := (Below.refl _ _).alloc (Nat.le_refl _) _
  have HD : Hid (DA (w.alloc (.cells #[.int .i64 k1, .int .i64 k2] 28)) D M L (hfn 35) P es) := h.kept HB1.out
  have hP := h.P0
  have hlt := hash_lt (k1, k2)
  have HK : Hid (∀ w, Calls Try.prog 35 #[.agg #[.int .i64 k1, .int .i64 k2]] w fun e w' => e = .returned (.int .u64 ((hash (k1, k2) : Nat) : Int)) ∧ Grew w w') := fun w => hash_any w k1 k2 hkin.2
  generalize hash (k1, k2) = hv at *
  have HDv : Hid (((hv : Nat) : Int) % (P : Int) = ((hv % P : Nat) : Int)) := by rw [Hid]; simp
  have hm : (hv : Int) % (P : Int) < 256 := by have := Int.emod_lt_of_pos (hv : Int) (show (0 : Int) < P by omega); omega
  have hm0 : 0 ≤ (hv : Int) % (P : Int) := Int.emod_nonneg _ (by omega)
  obtain ⟨c0, _, c2⟩ := HD.out.cells
  clear h hkin
  go_enter Try.func60, Try.ntmps60
  go_wp2_with fail
  have b0 : (w.alloc (.cells #[.int .i64 k1, .int .i64 k2] 28)).cell? ⟨w.heap.size, 0, none⟩ = some (.int .i64 k1) := by rw [World.cell?, heap_alloc_new _ _ rfl]; rfl
  have b1 : (w.alloc (.cells #[.int .i64 k1, .int .i64 k2] 28)).cell? ⟨w.heap.size, 1, none⟩ = some (.int .i64 k2) := by rw [World.cell?, heap_alloc_new _ _ rfl]; rfl
  generalize w.alloc (.cells #[.int .i64 k1, .int .i64 k2] 28) = W1 at *
  have g0 : ∀ m os, (grow (W1.drewN m) os).cell? ⟨D, 0, none⟩ = some (hfn 35) := fun m os => Grew.cell ⟨m, os, rfl⟩ c0
  have g2 : ∀ m os, (grow (W1.drewN m) os).cell? ⟨D, 2, none⟩ = some (.slice (some ⟨L, 0, none⟩) P P) := fun m os => Grew.cell ⟨m, os, rfl⟩ c2
  have e0 : ∀ m os, (grow (W1.drewN m) os).cell? ⟨w.heap.size, 0, none⟩ = some (.int .i64 k1) := fun m os => Grew.cell ⟨m, os, rfl⟩ b0
  have e1 : ∀ m os, (grow (W1.drewN m) os).cell? ⟨w.heap.size, 1, none⟩ = some (.int .i64 k2) := fun m os => Grew.cell ⟨m, os, rfl⟩ b1
  clear c0 c2 b0 b1
  refine wp_region_quiet_grown mixed (by kernel_rfl) ?_
  repeat (go_big_quiet_step (exact Calls.grown_of (HK.out _)))
  refine wpQuiet_nil ?_
  intro _ hw'
  obtain ⟨⟨nq, osq⟩, hw''⟩ := hw'
  subst hw''
  have HF : Hid (Below w.heap.size w (grow (W1.drewN nq) osq)) := HB1.out.trans ((Grew.below ⟨nq, osq, rfl⟩).mono HB1.out.size)
  go_wp2
  go_ret
  exact ⟨by rw [← HDv.out]; rfl, HF.out⟩
theorem part_ok : PartOK 35 hash := fun w D M L P es k hk h => part_hash w D M L P es k hk h
end Go.Proofs.Ytfkijdlggdgfhaa
