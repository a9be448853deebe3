/-
  same; mixed, rough.
-/
import Derived.Test.YtgaolpfpenaflaaDRef4
import Derived.Test.YtgaolpfpenaflaaKNe
namespace Go.Proofs.Ytgaolpfpenaflaa
open Go.RowKit Go.Sort

/-- '!=' of two like Pairs -/
theorem run_neQ (x1 x2 x3 x4 : Int) (w : World) : Sem.run Try.prog (binOp .neq TQ (.agg #[.int .i64 x1, .int .i64 x2, .int .i64 x3, .int .i64 x4]) (.agg #[.int .i64 x1, .int .i64 x2, .int .i64 x3, .int .i64 x4])) w = .ok (.bool false) w := by
  have hk : ∀ d, (Op.equalIn (d + 1 + 1) 28 (.agg #[.int .i64 x1, .int .i64 x2]) (.agg #[.int .i64 x1, .int .i64 x2])).run Try.prog w = .ok true w := fun d => by
    have u3 := Try.underlying3
    have a3 := Try.isAgg3
    have z3 := Try.sizeOf3
    have u2 := Try.underlying2
    have a2 := Try.isAgg2
    have z2 := Try.sizeOf2
    have hS : Try.prog.underlying 28 = some (.struct (Try.prog.fieldsOf 28)) := by kernel_rfl
    have hp : Try.prog.stoodInHeld 28 = false := by kernel_rfl
    rw [run_equalIn_agg w (d + 1) 28 _ _ hS hp]
    simp only [Program.fieldsOf, Try.underlying28]
    go_simp
  have u3 := Try.underlying3
  have a3 := Try.isAgg3
  have z3 := Try.sizeOf3
  have u2 := Try.underlying2
  have a2 := Try.isAgg2
  have z2 := Try.sizeOf2
  have ak := Try.isAgg28
  have zk := Try.sizeOf28
  have hS : Try.prog.underlying TQ = some (.struct (Try.prog.fieldsOf TQ)) := by kernel_rfl
  have hp : Try.prog.stoodInHeld TQ = false := by kernel_rfl
  rw [run_neq_struct, show (10000 : Nat) = 9999 + 1 from rfl, run_equalIn_agg w 9999 TQ _ _ hS hp]
  simp only [Program.fieldsOf, Try.underlying63]
  go_simp
theorem wrapU (x : Int) : 0 ≤ IntKind.u64.wrap x ∧ IntKind.u64.wrap x < 18446744073709551616 := by rw [IntKind.wrap_u64]; omega
set_option maxRecDepth 100000 in
theorem hash_rough : ∃ h, HashOK 9 h ∧ ∀ k, h k < 18446744073709551616 := by
  refine ⟨fun k => (IntKind.u64.wrap (bits .and .u64 (IntKind.u64.wrap k.2) 3 * 4611686018427387904)).toNat, ?_, ?_⟩
  · intro w k1 k2
    go_enter Try.func9, Try.ntmps9
    go_wp2
    go_ret
    refine ⟨?_, (Grew.refl w).alloc _⟩
    rw [Int.toNat_of_nonneg (wrapU _).1]
    rfl
  · intro k
    have := wrapU (bits .and .u64 (IntKind.u64.wrap k.2) 3 * 4611686018427387904)
    simp only
    omega
theorem bitsU (a b : Int) : 0 ≤ bits .xor .u64 a b ∧ bits .xor .u64 a b < 18446744073709551616 := by
  obtain ⟨z, hz⟩ : ∃ z, bits .xor .u64 a b = IntKind.u64.wrap z := ⟨_, rfl⟩
  rw [hz]; exact wrapU z
def mxX (k : K) : Int := IntKind.u64.wrap (IntKind.u64.wrap (IntKind.u64.wrap k.1 * 40503) + IntKind.u64.wrap (IntKind.u64.wrap k.2 * 2654435761))
set_option maxRecDepth 100000 in
theorem hash_mixed : ∃ h, HashOK 8 h ∧ ∀ k, h k < 18446744073709551616 := by
  refine ⟨fun k => (bits .xor .u64 (mxX k) (mxX k / 131072)).toNat, ?_, ?_⟩
  · intro w k1 k2
    go_enter Try.func8, Try.ntmps8
    go_wp2
    go_ret
    refine ⟨?_, (Grew.refl w).alloc _⟩
    rw [Int.toNat_of_nonneg (bitsU _ _).1]
    rfl
  · intro k
    have := bitsU (mxX k) (mxX k / 131072)
    simp only
    omega

set_option maxRecDepth 100000 in
set_option maxHeartbeats 1000000 in
theorem same_eq (w : World) (ao bo : Option Addr) (n c d : Nat) (l : List En) (hn : n = l.length) (ha : PrAt w ao l) (hb : PrAt w bo l) (hm : n ≤ 4000000000000) :
    Calls Try.prog 12 #[.slice ao n c, .slice bo n d] w fun e w' => e = .returned (.bool true) ∧ ∃ q, w' = w.drewN q := by
  have HN : Hid (n = l.length) := hn
  have HA : Hid (PrAt w ao l ∧ PrAt w bo l) := ⟨ha, hb⟩
  clear hn ha hb
  go_enter Try.func12, Try.ntmps12
  go_wp2
  go_loopw [5] (fun i wr => ∃ j : Nat, j ≤ n ∧ i = .int .i64 (j : Int) ∧ ∃ q, wr = w.drewN q) (fun i _ => n - (intOf i).toNat)
  case atStart => exact ⟨0, Nat.zero_le _, rfl, 0, rfl⟩
  case round =>
    obtain ⟨j, hj, rfl, q, rfl⟩ := hrel
    by_cases hlt : j < n
    · have hjl : j < l.length := by have := HN.out; omega
      obtain ⟨b, off, hao, hc⟩ : ∃ b off, ao = some ⟨b, off, none⟩ ∧ ∀ j u, (cpq l)[j]? = some u → w.cell? ⟨b, off + j, none⟩ = some u := by
        rcases HA.out.1 with h0 | h0
        · rw [h0] at hjl; simp at hjl
        · exact h0
      obtain ⟨b', off', hbo, hc'⟩ : ∃ b off, bo = some ⟨b, off, none⟩ ∧ ∀ j u, (cpq l)[j]? = some u → w.cell? ⟨b, off + j, none⟩ = some u := by
        rcases HA.out.2 with h0 | h0
        · rw [h0] at hjl; simp at hjl
        · exact h0
      obtain ⟨y0, y1, y2, y3⟩ := PrAt.cells hc j hjl
      obtain ⟨z0, z1, z2, z3⟩ := PrAt.cells hc' j hjl
      subst hao hbo
      generalize l[j] = x at *
      have hq := run_neQ x.k.1 x.k.2 x.v (x.p : Int)
      have hg : ∀ (op : BinOp) (a b : Operand) (w : World), Sem.run Try.prog (eqGuard op TQ a b (.agg #[.int .i64 x.k.1, .int .i64 x.k.2, .int .i64 x.v, .int .i64 (x.p : Int)]) (.agg #[.int .i64 x.k.1, .int .i64 x.k.2, .int .i64 x.v, .int .i64 (x.p : Int)])) w = .ok () w := fun op a b w => (GuardAt.agg (P := Try.prog) _ (by kernel_rfl)) op a b _ _ w
      clear hc hc'
      go_wp2_with fail
      go_quiet (fail)
      go_wp2
      go_roundw
      case rel => exact ⟨j + 1, by omega, by go_num, _, rfl⟩
      case measure => simp [intOf]; omega
    · obtain rfl : j = n := by omega
      go_wp2
      go_ret
      exact ⟨rfl, _, rfl⟩
end Go.Proofs.Ytgaolpfpenaflaa
