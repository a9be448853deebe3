/-
  Part, AT EACH HASH FUNCTION.
-/
import Derived.Test.YtenmkigoohpfmaaDNew
namespace Go.Proofs.Ytenmkigoohpfmaa
open Go.RowKit Go.Sort

set_option maxRecDepth 100000 in
set_option maxHeartbeats 1000000 in
theorem part_nil (hh : K → Nat) (hok : HashOK 10 hh) (h64 : ∀ k, hh k < 18446744073709551616) (w : World) (D M L P : Nat) (es : List En) (k : K) (h : DA w D M L (hfn 10) P es) :
    Calls Try.prog 12 #[ptr D, kv k] w fun e w' => e = .returned (.int .i64 ((hh k % P : Nat) : Int)) ∧ Below w.heap.size w w' := by
  obtain ⟨k1, k2⟩ := k
  have HB1 : Hid (Below w.heap.size w (w.alloc (.cells #[.int .i64 k1, .int .i64 k2] 28))) := (Below.refl _ _).alloc (Nat.le_refl _) _
  have HD : Hid (DA (w.alloc (.cells #[.int .i64 k1, .int .i64 k2] 28)) D M L (hfn 10) P es) := h.kept HB1.out
  have hP := h.P0
  have hlt := h64 (k1, k2)
  have HK : Hid (∀ w, Calls Try.prog 10 #[.agg #[.int .i64 k1, .int .i64 k2]] w fun e w' => e = .returned (.int .u64 ((hh (k1, k2) : Nat) : Int)) ∧ Grew w w') := fun w => hok w k1 k2
  generalize hh (k1, k2) = hv at *
  have HDv : Hid (((hv : Nat) : Int) % (P : Int) = ((hv % P : Nat) : Int)) := by rw [Hid]; simp
  have hm : (hv : Int) % (P : Int) < 256 := by have := Int.emod_lt_of_pos (hv : Int) (show (0 : Int) < P by omega); omega
  have hm0 : 0 ≤ (hv : Int) % (P : Int) := Int.emod_nonneg _ (by omega)
  obtain ⟨c0, _, c2⟩ := HD.out.cells
  clear h hok h64
  go_enter Try.func12, Try.ntmps12
  go_wp2_with fail
  have b0 : (w.alloc (.cells #[.int .i64 k1, .int .i64 k2] 28)).cell? ⟨w.heap.size, 0, none⟩ = some (.int .i64 k1) := by rw [World.cell?, heap_alloc_new _ _ rfl]; rfl
  have b1 : (w.alloc (.cells #[.int .i64 k1, .int .i64 k2] 28)).cell? ⟨w.heap.size, 1, none⟩ = some (.int .i64 k2) := by rw [World.cell?, heap_alloc_new _ _ rfl]; rfl
  generalize w.alloc (.cells #[.int .i64 k1, .int .i64 k2] 28) = W1 at *
  have g0 : ∀ m os, (grow (W1.drewN m) os).cell? ⟨D, 0, none⟩ = some (hfn 10) := fun m os => Grew.cell ⟨m, os, rfl⟩ c0
  have g2 : ∀ m os, (grow (W1.drewN m) os).cell? ⟨D, 2, none⟩ = some (.slice (some ⟨L, 0, none⟩) P P) := fun m os => Grew.cell ⟨m, os, rfl⟩ c2
  have e0 : ∀ m os, (grow (W1.drewN m) os).cell? ⟨w.heap.size, 0, none⟩ = some (.int .i64 k1) := fun m os => Grew.cell ⟨m, os, rfl⟩ b0
  have e1 : ∀ m os, (grow (W1.drewN m) os).cell? ⟨w.heap.size, 1, none⟩ = some (.int .i64 k2) := fun m os => Grew.cell ⟨m, os, rfl⟩ b1
  clear c0 c2 b0 b1
  refine wp_region_quiet_grown mixed (by kernel_rfl) ?_
  repeat (go_big_quiet_step (exact Calls.grown_of (HK.out _)))
  refine wpQuiet_nil ?_
  intro _ hw'
  obtain ⟨⟨nq, osq⟩, hw''⟩ := hw'
  subst hw''
  have HF : Hid (Below w.heap.size w (grow (W1.drewN nq) osq)) := HB1.out.trans ((Grew.below ⟨nq, osq, rfl⟩).mono HB1.out.size)
  go_wp2
  go_ret
  exact ⟨by rw [← HDv.out]; rfl, HF.out⟩
end Go.Proofs.Ytenmkigoohpfmaa
