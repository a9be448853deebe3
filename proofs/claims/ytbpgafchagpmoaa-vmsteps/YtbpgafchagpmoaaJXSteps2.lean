import Derived.Test.YtbpgafchagpmoaaJLawSteps
import Derived.Test.YtbpgafchagpmoaaJXGiven
import Derived.Test.YtbpgafchagpmoaaJOpenCode
import Derived.ChangeOld
import Derived.ProofKit
import Derived.OpenShut
import Derived.SizedLaws
import Derived.Lib.SmallJoins
/-
  VmSteps: TWO CALLS.
-/
namespace Go.Proofs.Ytbpgafchagpmoaa
open Go.RowKit Go.Sort

def dsOf (D0 D1 : CD) : Nat → CD
  | 0 => D0
  | _ + 1 => D1
theorem two_all {P : CD → Prop} {D0 D1 : CD} (h0 : P D0) (h1 : P D1) : ∀ i, i < 2 → P (dsOf D0 D1 i)
  | 0, _ => h0
  | _ + 1, _ => h1
def CD.Sz (D : CD) : Prop := D.n * 16 ≤ 140737488351232 ∧ D.na * 8 ≤ 140737488351232 ∧ D.nr * 16 ≤ 140737488351232
theorem steps_two (w : World) (D0 D1 : CD) (h0 : D0.In w) (h1 : D1.In w) (i0 : Ins D0.L D0.A D0.R) (i1 : Ins D1.L D1.A D1.R) (s0 : D0.Sz) (s1 : D1.Sz) (qa : Option Addr) (lq cq : Nat) (Q : List Int) (hq : SlIn w qa lq cq (Q.map iv)) (hlq : lq = Q.length) (hqb : lq * 8 ≤ 140737488351232) :
    Calls Try.prog 4 #[cdV D0, cdV D1, .slice qa lq cq] w fun e w' => e = .returned (.bool true) ∧ Go.RowKit.Below w.heap.size w w' := by
  have g : ∀ D : CD, D.Sz → ∀ W, D.In W → Calls Try.prog 9 #[cdV D] W fun e w' => GivenPost W D.p D.n D.na D.nr D.L D.A D.R e w' :=
    fun D hs W hW => given_any W D.p D.ao D.n D.cap D.L D.aa D.na D.ca D.A D.ra D.nr D.cr D.R hW hs.1 hs.2.1 hs.2.2
  have l : ∀ D : CD, D.Sz → D.n ≤ 140737488355328 ∧ D.na ≤ 140737488355328 ∧ D.nr ≤ 140737488355328 := fun D hs => by
    obtain ⟨a, b, c⟩ := hs
    exact ⟨by omega, by omega, by omega⟩
  exact steps_walk w (dsOf D0 D1) (two_all (P := fun D => D.In w) h0 h1) (two_all (P := fun D => Ins D.L D.A D.R) i0 i1) (two_all (P := fun D => D.n ≤ 140737488355328 ∧ D.na ≤ 140737488355328 ∧ D.nr ≤ 140737488355328) (l D0 s0) (l D1 s1))
    (two_all (P := fun D => ∀ W, D.In W → Calls Try.prog 9 #[cdV D] W fun e w' => GivenPost W D.p D.n D.na D.nr D.L D.A D.R e w') (g D0 s0) (g D1 s1)) qa lq cq Q hq hlq (by omega)
end Go.Proofs.Ytbpgafchagpmoaa
/-
  FROM THE READING OF A LIST OF ints TO ITS NUMBERS.
-/
namespace Go.Proofs.Ytbpgafchagpmoaa
open Go.ChangeShapes Go.WideShapes Go.ChangeAt Go.RowKit

theorem cellsNum : Try.prog.cellsOf 3 = 1 := by kernel_rfl
theorem bytesNum : Try.prog.bytesOf 3 = 8 := by kernel_rfl
set_option maxRecDepth 100000 in
theorem intsI_of_trod {H : Type} {enc : TypeId × Value → H} {W : World} {fuel : Nat} {cs : List Value} {y : DataW H × List MemPlace}
    (hf : DataW.trod enc Try.prog W 0 (fun _ => true) true fuel 42 cs = some y) :
    ∃ (a : Option Addr) (len cap : Nat) (S : List Int), cs = [.slice a len cap] ∧ len = S.length ∧ SlIn W a len cap (S.map iv) ∧ (∀ x ∈ S, In64 x) ∧
      (len = 0 ∨ ∃ elems spare, y.1 = .slice elems spare ∧ len ≤ elems.length + spare.length) := by
  rcases Deep.open_slice Try.underlying42 hf with ⟨rfl, rfl⟩ | ⟨a, len, cap, m, n, D, Pl, rfl, hb, hl, hm, hmm, rfl, hx⟩
  · exact ⟨none, 0, 0, [], rfl, rfl, ⟨.inl rfl, fun _ => ⟨rfl, rfl⟩⟩, by simp, .inl rfl⟩
  · have hle : len ≤ m := by rw [hmm]; simpa using hl
    rw [cellsNum] at hx
    obtain ⟨Z, hZ⟩ := Deep.choose_lt (α := Int) (n := len) (p := fun i k => ∃ b off, a.add (i * 1) = ⟨b, off, none⟩ ∧ W.cell? ⟨b, off, none⟩ = some (.int .i64 k) ∧ In64 k) (fun i hi => by
      obtain ⟨cs', h1, h2⟩ := hx i (by omega)
      obtain ⟨_, hlen, hcell⟩ := World.cells?_some h1
      obtain ⟨x, e, _, wx⟩ := DataW.trod_int Try.underlying3 h2
      subst e
      have e0 := hcell 0 (by omega)
      generalize a.add (i * 1) = ad at *
      obtain ⟨b, off, spot⟩ := ad
      have hspot : spot = none := by
        have h1 : (⟨b, off, spot⟩ : Addr).add 0 = ⟨b, off, spot⟩ := by simp [Addr.add]
        rw [h1] at e0
        exact World.cell?_spot e0
      subst hspot
      rw [Go.WideShapes.add_plain] at e0
      exact ⟨x, b, off, rfl, by simpa using e0, bounds_i64 wx⟩)
    refine ⟨some a, len, cap, (List.range len).map Z, rfl, by simp, ⟨?_, by simp⟩, ?_, .inr ⟨_, _, rfl, by simp⟩⟩
    · by_cases h0 : len = 0
      · left; subst h0; rfl
      · right
        obtain ⟨b, off, h1, _⟩ := hZ 0 (by omega)
        have h1' : a = ⟨b, off, none⟩ := by simpa [Addr.add] using h1
        subst h1'
        refine ⟨b, off, rfl, fun j u hu => ?_⟩
        have hj : j < len := by have := (List.getElem?_eq_some_iff.1 hu).1; simpa using this
        obtain ⟨b', off', h2, h3, _⟩ := hZ j hj
        rw [Go.WideShapes.add_plain, Nat.mul_one] at h2
        simp only [Addr.mk.injEq, and_true] at h2
        obtain ⟨rfl, rfl⟩ := h2
        simp [hj] at hu
        rw [h3, ← hu]
    · intro x hx
      obtain ⟨i, hi, rfl⟩ := List.mem_map.1 hx
      obtain ⟨_, _, _, _, h5⟩ := hZ i (by simpa using hi)
      exact h5
theorem intsI_sized {H : Type} {ts : List TypeId} {ds : List (DataW H)} {j n : Nat} {d : DataW H} (h : (DataW.weightsEach Try.prog ts ds).all (· ≤ reachBytes) = true) (ht : ts[j]? = some 42) (hd : ds[j]? = some d) (hx : n = 0 ∨ ∃ elems spare, d = .slice elems spare ∧ n ≤ elems.length + spare.length) : n * 8 ≤ 140737488351232 := by
  rcases hx with h0 | ⟨elems, spare, rfl, hl⟩
  · omega
  · have h1 := List.all_eq_true.1 h _ (DataW.weights_mem_each ht hd ((elems.length + spare.length) * 8) (by
      simp [DataW.weights, Try.underlying42, bytesNum]))
    have h2 : (elems.length + spare.length) * 8 ≤ reachBytes := by simpa using h1
    simp only [reachBytes] at h2
    omega
end Go.Proofs.Ytbpgafchagpmoaa
/-
  VmSteps: THE ROW.
-/
namespace Go.Proofs.Ytbpgafchagpmoaa.vmSteps
open Go.ChangeShapes Go.WideShapes Go.ChangeAt Go.RowKit

theorem own : ownKnob Try.prog.godebug = none := by kernel_rfl
theorem laidOut : laidOutB Try.prog = true := by kernel_rfl

set_option maxRecDepth 100000 in
theorem lifted (os : Os) (started : os.Started) (H : Type) (enc : TypeId × Value → H) :
    ReturnsInHanded {} Try.checked os 4 .any (Rows.vmStepsSpec.pre6 enc Try.prog Try.f4 Rows.vmStepsRow.domain false) (Rows.vmStepsSpec.post enc Try.prog Try.f4 false true false false) := by
  refine returnsInHanded_of_change_sized (C := Try.checked) own started (by kernel_rfl) Try.func4
    (ChangeSpec.witness6 (enc := enc) (C := Try.checked) false ⟨#[], #[.agg #[.int .i64 0, .int .i64 0, .int .i64 0, .int .i64 0, .slice none 0 0, .slice none 0 0, .slice none 0 0], .agg #[.int .i64 0, .int .i64 0, .int .i64 0, .int .i64 0, .slice none 0 0, .slice none 0 0, .slice none 0 0], .slice none 0 0], []⟩ 8 (by kernel_rfl) (by kernel_rfl) (by kernel_rfl) (by kernel_rfl)) ?_
  intro W base args ds gs before hval0 hW hcnd hsz0 _
  have hval : ∀ (j : Nat) t v, Try.f4.params[j]? = some t → args[j]? = some v → Value.okWide Try.prog W .any base t v := hval0
  have hW' := hW
  obtain ⟨p, q, hA0, hV, rfl, hfz, hnd⟩ := hW
  have hA : DataW.TrodAll enc Try.prog W 0 (fun _ => true) true Try.f4.params.toList args.toList ds p := hA0
  have hsz0 : (DataW.weightsEach Try.prog (Try.f4.params.toList ++ Rows.vmStepsSpec.plain.varTypes Try.prog) (ds ++ gs)).all (· ≤ reachBytes) = true := hsz0
  rw [Try.params4] at hA hval hsz0
  obtain ⟨v0, vs0, d0, ds0, p0, q0, hargs, rfl, rfl, h0, r0⟩ := trodAll_cons hA
  obtain ⟨v1, vs1, d1, ds1, p1, q1, rfl, rfl, rfl, h1, r1⟩ := trodAll_cons r0
  obtain ⟨v2, vs2, d2, ds2, p2, q2, rfl, rfl, rfl, h2, r2⟩ := trodAll_cons r1
  obtain ⟨rfl, rfl, rfl⟩ := trodAll_nil r2
  obtain rfl : args = #[v0, v1, v2] := by cases args; simp_all
  obtain ⟨rfl, rfl⟩ := trodVars_none hV
  have k0 := h0
  have lt0 : ∀ x ∈ p0, x.block < W.heap.size := by obtain ⟨m, hm⟩ := k0; exact DataW.trod_lt m _ _ _ hm
  obtain ⟨p_0, ao_0, n_0, cap_0, L_0, aa_0, na_0, ca_0, A_0, ra_0, nr_0, cr_0, R_0, rfl, hin_0, inL_0, inA_0, inR_0, hx0⟩ := call_of_trod (hval 0 28 v0 rfl rfl) h0
  have k1 := h1
  have lt1 : ∀ x ∈ p1, x.block < W.heap.size := by obtain ⟨m, hm⟩ := k1; exact DataW.trod_lt m _ _ _ hm
  obtain ⟨p_1, ao_1, n_1, cap_1, L_1, aa_1, na_1, ca_1, A_1, ra_1, nr_1, cr_1, R_1, rfl, hin_1, inL_1, inA_1, inR_1, hx1⟩ := call_of_trod (hval 1 28 v1 rfl rfl) h1
  obtain ⟨a_2, len_2, cap_2, rfl⟩ := okWide_slice Try.underlying42 (hval 2 42 v2 rfl rfl)
  have k2 := h2
  have lt2 : ∀ x ∈ p2, x.block < W.heap.size := by obtain ⟨m, hm⟩ := k2; exact DataW.trod_lt m _ _ _ hm
  obtain ⟨fuel2, hf2⟩ := h2
  obtain ⟨a2', len2', cap2', S_2, hcs2, ln_2, hs_2, inS_2, hx2⟩ := intsI_of_trod hf2
  simp [Value.cells] at hcs2
  obtain ⟨rfl, rfl, rfl⟩ := hcs2
  clear hA0 hval0
  refine (steps_two W ⟨p_0, ao_0, n_0, cap_0, L_0, aa_0, na_0, ca_0, A_0, ra_0, nr_0, cr_0, R_0⟩ ⟨p_1, ao_1, n_1, cap_1, L_1, aa_1, na_1, ca_1, A_1, ra_1, nr_1, cr_1, R_1⟩ hin_0 hin_1 ⟨inL_0, inA_0, inR_0⟩ ⟨inL_1, inA_1, inR_1⟩ ⟨call_code_sized hsz0 (j := 0) rfl rfl hx0, call_args_sized hsz0 (j := 0) rfl rfl hx0, call_reads_sized hsz0 (j := 0) rfl rfl hx0⟩ ⟨call_code_sized hsz0 (j := 1) rfl rfl hx1, call_args_sized hsz0 (j := 1) rfl rfl hx1, call_reads_sized hsz0 (j := 1) rfl rfl hx1⟩ a_2 len_2 cap_2 S_2 hs_2 ln_2 (intsI_sized hsz0 (j := 2) rfl rfl hx2)).mono fun e W' ⟨he, bel⟩ => ?_
  subst he
  exact ⟨_, rfl, _, _, _, [], _, [], hW', trodAll_mk1 (shut_bool Try.underlying4 _), (trodAll_cons_mk (Below.trod laidOut (by kernel_rfl) (of_decide_eq_true (by kernel_rfl)) k0 bel lt0) (trodAll_cons_mk (Below.trod laidOut (by kernel_rfl) (of_decide_eq_true (by kernel_rfl)) k1 bel lt1) (trodAll_cons_mk (Below.trod laidOut (by kernel_rfl) (of_decide_eq_true (by kernel_rfl)) k2 bel lt2) trodAll_mk0))), rfl, bel.frame _, fun h => by cases h⟩

theorem proved : Rows.VmStepsSaid :=
  OpenClaim.holds_of_wide 4 Try.f4 rfl rfl rfl rfl rfl rfl rfl ⟨rfl, rfl, rfl, rfl, rfl⟩ rfl rfl rfl rfl rfl (by kernel_rfl) Try.func4 (by kernel_rfl)
    (of_decide_eq_true (by kernel_rfl)) (by unfold Func.isWrapper; first | (rw [if_pos (by decide +kernel)]; kernel_rfl) | (rw [if_neg (by decide +kernel)]; exact ⟨rfl, rfl⟩))
    (fun os started H enc _ => lifted os started H enc)
end Go.Proofs.Ytbpgafchagpmoaa.vmSteps
namespace Go.Proofs.Ytbpgafchagpmoaa
theorem vmSteps_holds : Rows.VmStepsSaid := vmSteps.proved
#print axioms vmSteps_holds
end Go.Proofs.Ytbpgafchagpmoaa
