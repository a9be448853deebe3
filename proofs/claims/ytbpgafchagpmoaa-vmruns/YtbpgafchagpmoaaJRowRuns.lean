import Derived.Test.YtbpgafchagpmoaaJLawRuns
import Derived.Test.YtbpgafchagpmoaaJXGiven
import Derived.Test.YtbpgafchagpmoaaJOpenCode
import Derived.ChangeOld
import Derived.ProofKit
import Derived.OpenShut
import Derived.SizedLaws
import Derived.Lib.SmallJoins
/-
  VmRuns: THE ROW.
-/
namespace Go.Proofs.Ytbpgafchagpmoaa.vmRuns
open Go.ChangeShapes Go.WideShapes Go.ChangeAt Go.RowKit

theorem own : ownKnob Try.prog.godebug = none := by kernel_rfl
theorem laidOut : laidOutB Try.prog = true := by kernel_rfl

set_option maxRecDepth 100000 in
theorem lifted (os : Os) (started : os.Started) (H : Type) (enc : TypeId × Value → H) :
    ReturnsInHanded {} Try.checked os 3 .any (Rows.vmRunsSpec.pre6 enc Try.prog Try.f3 Rows.vmRunsRow.domain false) (Rows.vmRunsSpec.post enc Try.prog Try.f3 false true false false) := by
  refine returnsInHanded_of_change_sized (C := Try.checked) own started (by kernel_rfl) Try.func3
    (ChangeSpec.witness6 (enc := enc) (C := Try.checked) false ⟨#[], #[.agg #[.int .i64 0, .int .i64 0, .int .i64 0, .int .i64 0, .slice none 0 0, .slice none 0 0, .slice none 0 0]], []⟩ 8 (by kernel_rfl) (by kernel_rfl) (by kernel_rfl) (by kernel_rfl)) ?_
  intro W base args ds gs before hval0 hW hcnd hsz0 _
  have hval : ∀ (j : Nat) t v, Try.f3.params[j]? = some t → args[j]? = some v → Value.okWide Try.prog W .any base t v := hval0
  have hW' := hW
  obtain ⟨p, q, hA0, hV, rfl, hfz, hnd⟩ := hW
  have hA : DataW.TrodAll enc Try.prog W 0 (fun _ => true) true Try.f3.params.toList args.toList ds p := hA0
  have hsz0 : (DataW.weightsEach Try.prog (Try.f3.params.toList ++ Rows.vmRunsSpec.plain.varTypes Try.prog) (ds ++ gs)).all (· ≤ reachBytes) = true := hsz0
  rw [Try.params3] at hA hval hsz0
  obtain ⟨v0, vs0, d0, ds0, p0, q0, hargs, rfl, rfl, h0, r0⟩ := trodAll_cons hA
  obtain ⟨rfl, rfl, rfl⟩ := trodAll_nil r0
  obtain rfl : args = #[v0] := by cases args; simp_all
  obtain ⟨rfl, rfl⟩ := trodVars_none hV
  have k0 := h0
  have lt0 : ∀ x ∈ p0, x.block < W.heap.size := by obtain ⟨m, hm⟩ := k0; exact DataW.trod_lt m _ _ _ hm
  obtain ⟨p_0, ao_0, n_0, cap_0, L_0, aa_0, na_0, ca_0, A_0, ra_0, nr_0, cr_0, R_0, rfl, hin_0, inL_0, inA_0, inR_0, hx0⟩ := call_of_trod (hval 0 28 v0 rfl rfl) h0
  clear hA0 hval0
  refine (runs_walk W p_0 ao_0 n_0 cap_0 L_0 aa_0 na_0 ca_0 A_0 ra_0 nr_0 cr_0 R_0 hin_0 ⟨inL_0, inA_0, inR_0⟩ (by have := call_code_sized hsz0 (j := 0) rfl rfl hx0; omega) (by have := call_args_sized hsz0 (j := 0) rfl rfl hx0; omega) (by have := call_reads_sized hsz0 (j := 0) rfl rfl hx0; omega) (fun W1 h1 => given_any W1 p_0 ao_0 n_0 cap_0 L_0 aa_0 na_0 ca_0 A_0 ra_0 nr_0 cr_0 R_0 h1 (call_code_sized hsz0 (j := 0) rfl rfl hx0) (call_args_sized hsz0 (j := 0) rfl rfl hx0) (call_reads_sized hsz0 (j := 0) rfl rfl hx0))).mono fun e W' ⟨he, bel⟩ => ?_
  subst he
  exact ⟨_, rfl, _, _, _, [], _, [], hW', trodAll_mk1 (shut_bool Try.underlying4 _), (trodAll_cons_mk (Below.trod laidOut (by kernel_rfl) (of_decide_eq_true (by kernel_rfl)) k0 bel lt0) trodAll_mk0), rfl, bel.frame _, fun h => by cases h⟩

theorem proved : Rows.VmRunsSaid :=
  OpenClaim.holds_of_wide 3 Try.f3 rfl rfl rfl rfl rfl rfl rfl ⟨rfl, rfl, rfl, rfl, rfl⟩ rfl rfl rfl rfl rfl (by kernel_rfl) Try.func3 (by kernel_rfl)
    (of_decide_eq_true (by kernel_rfl)) (by unfold Func.isWrapper; first | (rw [if_pos (by decide +kernel)]; kernel_rfl) | (rw [if_neg (by decide +kernel)]; exact ⟨rfl, rfl⟩))
    (fun os started H enc _ => lifted os started H enc)
end Go.Proofs.Ytbpgafchagpmoaa.vmRuns
namespace Go.Proofs.Ytbpgafchagpmoaa
theorem vmRuns_holds : Rows.VmRunsSaid := vmRuns.proved
#print axioms vmRuns_holds
end Go.Proofs.Ytbpgafchagpmoaa
