/-
  THE WALK OF sameProgram, where no lists of the document stand.
-/
import Derived.Test.YtkjmeknaedapjaaLDepths
import Derived.Deep.QuietTactic
namespace Go.Proofs.Ytkjmeknaedapjaa
open Go.RowKit Go.Sort

theorem run_neKey (x1 x2 y1 y2 : Int) (w : World) : Sem.run Try.prog (binOp .neq 61 (.agg #[.int .i64 x1, .int .i64 x2]) (.agg #[.int .i64 y1, .int .i64 y2])) w = .ok (.bool (!decide ((x1, x2) = (y1, y2)))) w := by
  have u3 := Try.underlying3
  have a3 := Try.isAgg3
  have z3 := Try.sizeOf3
  have u2 := Try.underlying2
  have a2 := Try.isAgg2
  have z2 := Try.sizeOf2
  have hS : Try.prog.underlying 61 = some (.struct (Try.prog.fieldsOf 61)) := by kernel_rfl
  have hp : Try.prog.stoodInHeld 61 = false := by kernel_rfl
  rw [run_neq_struct, show (10000 : Nat) = 9999 + 1 from rfl, run_equalIn_agg w 9999 61 _ _ hS hp]
  simp only [Program.fieldsOf, Try.underlying61]
  go_simp
  by_cases h1 : x1 = y1 <;> by_cases h2 : x2 = y2 <;> simp [h1, h2]
theorem run_neSame (x1 x2 : Int) (w : World) : Sem.run Try.prog (binOp .neq 61 (.agg #[.int .i64 x1, .int .i64 x2]) (.agg #[.int .i64 x1, .int .i64 x2])) w = .ok (.bool false) w := by
  have h := run_neKey x1 x2 x1 x2 w
  rw [h]; simp

set_option maxHeartbeats 1000000 in
theorem sameProgram_eq (w : World) (p : Nums) (a1 a2 : Option Addr) (n c1 c2 : Nat) (L : List K) (h1 : KeysAt w a1 L) (h2 : KeysAt w a2 L) (hn : n = L.length) (hm : n * 16 ≤ 140737488355328) :
    Calls Try.prog 28 #[pv p a1 n c1, pv p a2 n c2] w fun e w' => e = .returned (.bool true) ∧ ∃ q os, w' = grow (w.drewN q) os := by
  have H1 : Hid (KeysAt w a1 L) := h1
  have H2 : Hid (KeysAt w a2 L) := h2
  have HN : Hid (n = L.length) := hn
  clear h1 h2 hn
  obtain ⟨y1, y2, y3, y4⟩ := p
  go_enter Try.func28, Try.ntmps28
  go_wp2_with fail
  have HG : Hid (Grew w ((w.alloc (.cells #[.int .i64 y1, .int .i64 y2, .int .i64 y3, .int .i64 y4, .slice a1 n c1] 39)).alloc (.cells #[.int .i64 y1, .int .i64 y2, .int .i64 y3, .int .i64 y4, .slice a2 n c2] 39))) := ((Grew.refl _).alloc _).alloc _
  have HP1 : Hid (PBox ((w.alloc (.cells #[.int .i64 y1, .int .i64 y2, .int .i64 y3, .int .i64 y4, .slice a1 n c1] 39)).alloc (.cells #[.int .i64 y1, .int .i64 y2, .int .i64 y3, .int .i64 y4, .slice a2 n c2] 39)) w.heap.size ⟨y1, y2, y3, y4⟩ a1 n c1) := (PBox.new w ⟨y1, y2, y3, y4⟩ a1 n c1).kept ((Below.refl _ _).alloc (Nat.le_refl _) _)
  have HP2 : Hid (PBox ((w.alloc (.cells #[.int .i64 y1, .int .i64 y2, .int .i64 y3, .int .i64 y4, .slice a1 n c1] 39)).alloc (.cells #[.int .i64 y1, .int .i64 y2, .int .i64 y3, .int .i64 y4, .slice a2 n c2] 39)) (w.heap.size + 1) ⟨y1, y2, y3, y4⟩ a2 n c2) := by
    have := PBox.new (w.alloc (.cells #[.int .i64 y1, .int .i64 y2, .int .i64 y3, .int .i64 y4, .slice a1 n c1] 39)) ⟨y1, y2, y3, y4⟩ a2 n c2
    rw [World.size_alloc] at this
    exact this
  generalize (w.alloc (.cells #[.int .i64 y1, .int .i64 y2, .int .i64 y3, .int .i64 y4, .slice a1 n c1] 39)).alloc (.cells #[.int .i64 y1, .int .i64 y2, .int .i64 y3, .int .i64 y4, .slice a2 n c2] 39) = W0 at *
  go_loopw [5] (fun x wr => ∃ k : Nat, k ≤ n ∧ x = .int .i64 (k : Int) ∧ Hid (Grew w wr) ∧ Hid (PBox wr w.heap.size ⟨y1, y2, y3, y4⟩ a1 n c1) ∧ Hid (PBox wr (w.heap.size + 1) ⟨y1, y2, y3, y4⟩ a2 n c2)) (fun x _ => n - (intOf x).toNat)
  case atStart => exact ⟨0, by omega, rfl, HG, HP1, HP2⟩
  case round =>
    clear HG HP1 HP2
    obtain ⟨k, hk, rfl, HG, HP1, HP2⟩ := hrel
    have x4 := HP1.out.cells.2.2.2.2
    have z4 := HP2.out.cells.2.2.2.2
    by_cases hlt : k < n
    · obtain ⟨b1, o1, rfl, c11, c12⟩ := (H1.out.grew HG.out).get k (by have := HN.out; omega)
      obtain ⟨b2, o2, rfl, c21, c22⟩ := (H2.out.grew HG.out).get k (by have := HN.out; omega)
      generalize cd L k = kk at *
      obtain ⟨t, r⟩ := kk
      simp only at c11 c12 c21 c22
      have hq := run_neSame t r
      have hgd := fun op x y => run_eqGuard op x y t r t r
      go_wp2_with fail
      go_quiet (fail)
      go_wp2
      go_roundw
      case rel => exact ⟨k + 1, by omega, by go_num, HG.out.drewN nq, HP1, HP2⟩
      case measure => simp [intOf]; omega
    · obtain rfl : k = n := by omega
      go_wp2
      go_ret
      exact ⟨rfl, HG.out⟩

end Go.Proofs.Ytkjmeknaedapjaa
