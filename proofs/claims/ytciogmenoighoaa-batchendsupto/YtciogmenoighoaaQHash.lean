/-
  THE WALKS OF Hash, Partition.
-/
import Derived.Test.YtciogmenoighoaaQSpell
namespace Go.Proofs.Ytciogmenoighoaa.Kk
open Go.RowKit Go.Sort

theorem fnv_step (h c : Nat) (hh : h < 18446744073709551616) (hc : c < 256) :
    bits .xor .u64 (h : Int) (c : Int) = ((h ^^^ c : Nat) : Int) ∧ h ^^^ c < 18446744073709551616 ∧ IntKind.u64.wrap (((h ^^^ c : Nat) : Int) * 1099511628211) = ((fnvStep h c : Nat) : Int) := by
  have h1 : h ^^^ c < 18446744073709551616 := Nat.xor_lt_two_pow (n := 64) hh (by omega)
  refine ⟨u64_xor_nat h c hh (by omega), h1, ?_⟩
  rw [IntKind.wrap_u64]
  unfold fnvStep
  omega
theorem isKey_iff (t r : Int) : isKey (t, r) = true ↔ 0 ≤ t ∧ t ≤ 65535 := by simp [isKey]
theorem isKey_false (t r : Int) : isKey (t, r) = false ↔ ¬ (0 ≤ t ∧ t ≤ 65535) := by rw [← isKey_iff t r]; simp

theorem index10 (w : World) (C : Array Value) (n : Nat) (c : Int) (hn : n < 10) (h : C[n]? = some (.int .u8 c)) : Sem.run Try.prog (Instr.index 135 (.agg C) (.int .i64 (n : Int))) w = .ok (.int .u8 c) w := by
  have hz := Try.sizeOf5
  have ha := Try.isAgg5
  simp [Instr.index, run_underlying Try.underlying135, asIntOf, go_sem, hz, ha, h]
  intro h'; omega


def okParts (p : Int) : Bool := decide (1 ≤ p) && decide (p ≤ 256)
theorem okParts_iff (p : Int) : okParts p = true ↔ 1 ≤ p ∧ p ≤ 256 := by simp [okParts]
/-- what Partition answers -/
def partV (k : K) (p : Int) : Int := if isKey k then (if okParts p then ((hash k : Int) % p) else 0) else 0
def partE (k : K) (p : Int) : Int := if isKey k then (if okParts p then 0 else 21) else 20



end Go.Proofs.Ytciogmenoighoaa.Kk
