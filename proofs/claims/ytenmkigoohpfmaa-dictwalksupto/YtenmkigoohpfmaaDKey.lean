/-
  isKey.
-/
import Derived.Test.YtenmkigoohpfmaaDMem
namespace Go.Proofs.Ytenmkigoohpfmaa
open Go.RowKit Go.Sort

set_option maxRecDepth 100000 in
set_option maxHeartbeats 1000000 in
/-- the deferred closure, where nothing is to be recovered -/
theorem isKey_idle (p1 : Addr) (w : World) :
    CallsD Try.prog 18 #[.pointer (some p1)] .returning w fun e u' w' => e = .returned (.tuple #[]) ∧ u' = .returning ∧ w' = w := by
  refine callsD_of_wpS Try.func18 rfl fun c₀ cs hu => ?_
  apply wpS_seq
  apply wpS_region
  simp [wpOpsS, go_sem, recoverD, hu, Try.ntmps18, Exit.thenS]
  refine wpS_cond (t := false) (by simp [Act.eval, Array.replicate]) ?_
  simp only [Bool.false_eq_true, if_false]
  refine wpS_of_wp (wp_skip ?_)
  cases c₀
  simp_all [bodyPostS, results, Try.results18]

set_option maxRecDepth 100000 in
set_option maxHeartbeats 1000000 in
theorem isKey_any (w : World) (k : K) :
    Calls Try.prog 11 #[kv k] w fun e w' => e = .returned (.bool true) ∧ Below w.heap.size w w' := by
  have hmf : ∀ (fn : Fn) (first cap : Array Value) (w : World), (Instr.makeFunc fn first cap).run Try.prog w = .ok (.func fn first cap) w := fun _ _ _ _ => rfl
  obtain ⟨k1, k2⟩ := k
  go_enter_defers Try.func11, Try.ntmps11
  have hq := run_eqKey k1 k2 k1 k2
  have hg := run_eqGuard
  have HB : Hid (Below w.heap.size w ((w.alloc (.cells #[.int .i64 k1, .int .i64 k2] 28)).alloc (.cells #[.bool true] 4))) := ((Below.refl _ _).alloc (Nat.le_refl _) _).alloc (by simp) _
  have g1 : ((w.alloc (.cells #[.int .i64 k1, .int .i64 k2] 28)).alloc (.cells #[.bool true] 4)).cell? ⟨w.heap.size + 1, 0, none⟩ = some (.bool true) := by
    have h := heap_alloc_new (w := w.alloc (.cells #[.int .i64 k1, .int .i64 k2] 28)) (.cells #[.bool true] 4) (w.heap.size + 1) (by simp)
    rw [World.cell?, h]; rfl
  go_wp2
  refine leaves_cons (f := 18) (args := #[.pointer (some ⟨w.heap.size + 1, 0, none⟩)]) (by simp) (by simp [go_sem]) ?_
  refine (isKey_idle _ _).mono ?_
  rintro e3 u' w6 ⟨rfl, rfl, hw6⟩
  subst hw6
  simp [Leaves, settle, results, Try.results11, go_sem, g1]
  exact HB.out
end Go.Proofs.Ytenmkigoohpfmaa
