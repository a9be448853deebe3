import Derived.Test.YtkmafpfldnapjaaGreatDoorRows
import Derived.Test.YtkmafpfldnapjaaGreatDoorCards
import Derived.Test.YtkmafpfldnapjaaGreatDoorTie
import Derived.Test.YtkmafpfldnapjaaGreatDoorKLDec
import Derived.Test.YtkmafpfldnapjaaGreatDoorKAVars
import Derived.Test.YtkmafpfldnapjaaGreatDoorKOpenLib
import Derived.OpenShut
import Derived.ChangeOld
import Derived.SizedLaws
import Derived.ShutString
import Derived.Lib.SmallJoins
import Derived.Deep.DeepHandedRow
import Derived.Deep.DeepWitnessRowRef
/-
  WHAT THE BOUND ON THE BULK GIVES.
-/
namespace Go.Proofs.YtkmafpfldnapjaaGreatDoor

theorem bulk_one {H : Type} (d : DataW H) : 1 ≤ Rows.uptoBulk d := by
  cases d with
  | lit l => cases l <;> simp [Rows.uptoBulk]
  | _ => simp [Rows.uptoBulk]
theorem bulk_length {H : Type} (l : List (DataW H)) : l.length ≤ Rows.uptoBulkAll l := by
  induction l with
  | nil => simp [Rows.uptoBulkAll]
  | cons x r ih => have := bulk_one x; simp only [Rows.uptoBulkAll, List.length_cons]; omega
theorem bulk_slice {H : Type} (elems spare : List (DataW H)) : elems.length + spare.length + 1 ≤ Rows.uptoBulk (.slice elems spare) := by
  have h1 := bulk_length elems
  have h2 := bulk_length spare
  simp only [Rows.uptoBulk]
  omega
theorem bulk_bytes {H : Type} {d : DataW H} {len : Nat} (h : len = 0 ∨ ∃ elems spare, d = .slice elems spare ∧ len ≤ elems.length + spare.length) : len + 1 ≤ Rows.uptoBulk d := by
  rcases h with h | ⟨elems, spare, rfl, hl⟩
  · have := bulk_one d; omega
  · have := bulk_slice elems spare; omega
theorem bulk_of_small {H : Type} {l : List (DataW H)} (h : Rows.uptoSmall H l = true) : Rows.uptoBulkAll l ≤ 1048576 := of_decide_eq_true h

end Go.Proofs.YtkmafpfldnapjaaGreatDoor
/-
  AsmLoose: THE ROW AND ITS CARD.
-/
namespace Go.Proofs.YtkmafpfldnapjaaGreatDoor.asmLoose
open Go.ChangeShapes Go.WideShapes Go.ChangeAt Go.RowKit
open Go.ChangeMaps (open_string shut_string)

theorem all_of {W : World} (h : laidMetH Tryz.prog Rows.asmLooseUptoRow.laid W) : NumVars W ∧ Vs W ∧ ErrVar W := by
  have h' : laidMet Tryz.prog plainL W ∧ handlesMet Tryz.prog handL W := h
  exact ⟨(vars_of h'.1).1, (vars_of h'.1).2, handle_of h'.2⟩
theorem u8_arg {x : Int} (h : (Lit.int .u8 x).wf = true) : ∃ b : UInt8, x = (b.toNat : Int) := by
  have h1 : 0 ≤ x ∧ x ≤ 255 := bounds_u8 h
  refine ⟨UInt8.ofNat x.toNat, ?_⟩
  rw [UInt8.toNat_ofNat']
  omega
theorem laid_met (os : Os) : laidMetH Tryz.prog Rows.asmLooseUptoRow.laid (World.forCall ({ World.holding Tryz.prog os ⟨#[.cells #[.string ⟨#[118, 97, 108, 117, 101, 32, 111, 117, 116, 32, 111, 102, 32, 114, 97, 110, 103, 101]⟩] 257, .cells #[.string ⟨#[105, 110, 118, 97, 108, 105, 100, 32, 115, 121, 110, 116, 97, 120]⟩] 257], #[], []⟩ with heap := (((((((((World.holding Tryz.prog os ⟨#[.cells #[.string ⟨#[118, 97, 108, 117, 101, 32, 111, 117, 116, 32, 111, 102, 32, 114, 97, 110, 103, 101]⟩] 257, .cells #[.string ⟨#[105, 110, 118, 97, 108, 105, 100, 32, 115, 121, 110, 116, 97, 120]⟩] 257], #[], []⟩).heap.modify 6 fun | .cells _ t frozen => .cells (vals Rows.laid_math_bits_deBruijn32tab) t frozen | o => o).modify 7 fun | .cells _ t frozen => .cells (vals Rows.laid_math_bits_deBruijn64tab) t frozen | o => o).modify 3 fun | .cells _ t frozen => .cells (vals Rows.laid_internal_strconv_uint64pow10) t frozen | o => o).modify 5 fun | .cells _ t frozen => .cells #[.iface 255 (.pointer (some ⟨(World.holding Tryz.prog default ⟨#[], #[], []⟩).heap.size, 0, none⟩))] t frozen | o => o).modify 4 fun | .cells _ t frozen => .cells #[.iface 255 (.pointer (some ⟨(World.holding Tryz.prog default ⟨#[], #[], []⟩).heap.size + 1, 0, none⟩))] t frozen | o => o).modify 2 fun | .cells _ t frozen => .cells nmCells t frozen | o => o).modify 1 fun | .cells _ t frozen => .cells nwCells t frozen | o => o).modify 0 fun | .cells _ t frozen => .cells #[.iface 190 (.agg #[.pointer (some ⟨8, 28, none⟩)])] t frozen | o => o) }) (fun _ _ => 0) ⟨#[], #[.slice none 0 0, .string .empty, .int .u8 0], []⟩).memory :=
  laidMetH_of_parts (laidMet_of_run' 8 (by kernel_rfl) (by kernel_rfl)) (by kernel_rfl)
theorem reads (os : Os) {H : Type} (enc : TypeId × Value → H) : ∃ places, DataW.whole enc Tryz.prog (World.forCall ({ World.holding Tryz.prog os ⟨#[.cells #[.string ⟨#[118, 97, 108, 117, 101, 32, 111, 117, 116, 32, 111, 102, 32, 114, 97, 110, 103, 101]⟩] 257, .cells #[.string ⟨#[105, 110, 118, 97, 108, 105, 100, 32, 115, 121, 110, 116, 97, 120]⟩] 257], #[], []⟩ with heap := (((((((((World.holding Tryz.prog os ⟨#[.cells #[.string ⟨#[118, 97, 108, 117, 101, 32, 111, 117, 116, 32, 111, 102, 32, 114, 97, 110, 103, 101]⟩] 257, .cells #[.string ⟨#[105, 110, 118, 97, 108, 105, 100, 32, 115, 121, 110, 116, 97, 120]⟩] 257], #[], []⟩).heap.modify 6 fun | .cells _ t frozen => .cells (vals Rows.laid_math_bits_deBruijn32tab) t frozen | o => o).modify 7 fun | .cells _ t frozen => .cells (vals Rows.laid_math_bits_deBruijn64tab) t frozen | o => o).modify 3 fun | .cells _ t frozen => .cells (vals Rows.laid_internal_strconv_uint64pow10) t frozen | o => o).modify 5 fun | .cells _ t frozen => .cells #[.iface 255 (.pointer (some ⟨(World.holding Tryz.prog default ⟨#[], #[], []⟩).heap.size, 0, none⟩))] t frozen | o => o).modify 4 fun | .cells _ t frozen => .cells #[.iface 255 (.pointer (some ⟨(World.holding Tryz.prog default ⟨#[], #[], []⟩).heap.size + 1, 0, none⟩))] t frozen | o => o).modify 2 fun | .cells _ t frozen => .cells nmCells t frozen | o => o).modify 1 fun | .cells _ t frozen => .cells nwCells t frozen | o => o).modify 0 fun | .cells _ t frozen => .cells #[.iface 190 (.agg #[.pointer (some ⟨8, 28, none⟩)])] t frozen | o => o) }) (fun _ _ => 0) ⟨#[], #[.slice none 0 0, .string .empty, .int .u8 0], []⟩).memory Tryz.f6.params.toList Rows.asmLooseSpec.vars false #[Value.slice none 0 0, Value.string .empty, Value.int .u8 0].toList 8 = some ([.nil, .lit (.string []), .lit (.int .u8 0)], [], places) :=
  ⟨[], by kernel_rfl⟩

set_option maxRecDepth 100000 in
theorem contract (H : Type) (enc : TypeId × Value → H) (W : World) (base : Nat) (args : Array Value) (ds gs : List (DataW H)) (before : List MemPlace)
    (hval : ∀ (j : Nat) t v, Tryz.f6.params[j]? = some t → args[j]? = some v → Value.okWide Tryz.prog W .any base t v)
    (hW : DataW.Whole enc Tryz.prog Tryz.f6.params.toList Rows.asmLooseSpec.vars false W args.toList ds gs before)
    (hsz0 : (DataW.weightsEach Tryz.prog (Tryz.f6.params.toList ++ (Rows.OpenSpec.upto Rows.asmLooseSpec).bare.plain.varTypes Tryz.prog) (ds ++ gs)).all (· ≤ reachBytes) = true)
    (hL : laidMetH Tryz.prog Rows.asmLooseUptoRow.laid W) (hNG : 8 ≤ W.heap.size) (hk : Rows.uptoSmall H (ds ++ gs) = true)
    : Calls Tryz.prog 6 args W fun e W' => ∃ v, e = .returned v ∧ Rows.asmLooseSpec.post enc Tryz.prog Tryz.f6 false true false false W args v W' := by
  have hW' := hW
  obtain ⟨p, q, hA0, hV, rfl, hfz, hnd⟩ := hW
  have hA : DataW.TrodAll enc Tryz.prog W 0 (fun _ => true) true Tryz.f6.params.toList args.toList ds p := hA0
  rw [Tryz.params6] at hA hval hsz0
  obtain ⟨v0, vs0, d0, ds0, p0, q0, hargs, rfl, rfl, h0, r0⟩ := trodAll_cons hA
  obtain ⟨v1, vs1, d1, ds1, p1, q1, rfl, rfl, rfl, h1, r1⟩ := trodAll_cons r0
  obtain ⟨v2, vs2, d2, ds2, p2, q2, rfl, rfl, rfl, h2, r2⟩ := trodAll_cons r1
  obtain ⟨rfl, rfl, rfl⟩ := trodAll_nil r2
  obtain rfl : args = #[v0, v1, v2] := by cases args; simp_all
  obtain ⟨rfl, rfl⟩ := trodVars_none hV
  obtain ⟨a0, len0, cap0, rfl⟩ := okWide_slice Tryz.underlying22 (hval 0 22 v0 rfl rfl)
  have k0 := h0
  have lt0 : ∀ x ∈ p0, x.block < W.heap.size := by obtain ⟨m, hm⟩ := k0; exact DataW.trod_lt m _ _ _ hm
  obtain ⟨fuel0, hf0⟩ := h0
  obtain ⟨a0', len0', cap0', Ps0, hcs0, hn0, hlc0, hcm0, hnil0, hx0⟩ := lib_of_trod hf0
  simp [Value.cells] at hcs0
  obtain ⟨rfl, rfl, rfl⟩ := hcs0
  obtain ⟨hl0, hr0⟩ := hx0 (weights_at hsz0 (j := 0) rfl rfl)
  have hrl0 : len0 ≤ 140737488351232 := by simp only [reachBytes] at hr0; omega
  obtain ⟨s_1, rfl, rfl, rfl, hsw_1⟩ := open_string Tryz.underlying9 (hval 1 9 v1 rfl rfl) h1
  have hs_1 : s_1.data.toList.length ≤ 140737488351232 := by
    have h1 := sized_string hsz0 (j := 1) (t := 9) rfl rfl
    have e1 : s_1.size = s_1.data.size := rfl
    have e2 : s_1.data.toList.length = s_1.data.size := Array.length_toList
    simp only [reachBytes] at h1
    omega
  obtain ⟨x2, rfl, rfl, rfl, wx2⟩ := open_int Tryz.underlying5 (hval 2 5 v2 rfl rfl) h2
  obtain ⟨b2, rfl⟩ := u8_arg wx2
  clear hA0
  obtain ⟨hv, hs, he⟩ := all_of hL
  have hbulk := bulk_of_small hk
  simp only [List.append_nil, Rows.uptoBulkAll, Rows.uptoBulk] at hbulk
  have hlaw := lawLoose W a0 len0 cap0 Ps0 hl0 hn0 hrl0 s_1.data.toList (by omega) b2 hv hs he hNG
  simp only [S_of] at hlaw
  refine hlaw.mono fun e W' ⟨he, bel⟩ => ?_
  subst he
  exact ⟨_, rfl, _, _, _, [], _, [], hW', trodAll_mk1 (shut_bool Tryz.underlying4 _), (trodAll_cons_mk (Below.trod laidOut (by kernel_rfl) (of_decide_eq_true (by kernel_rfl)) k0 bel lt0) (trodAll_cons_mk (shut_string Tryz.underlying9 hsw_1) (trodAll_cons_mk (shut_int Tryz.underlying5 wx2) trodAll_mk0))), rfl, bel.frame _, fun h => by cases h⟩

set_option maxRecDepth 100000 in
theorem lifted (os : Os) (started : os.Started) (H : Type) (enc : TypeId × Value → H) (F : Stop.Interp) :
    ReturnsInHanded {} Tryz.checked os 6 .any ((Rows.OpenSpec.upto Rows.asmLooseSpec).preRow enc Tryz.prog Tryz.f6 Rows.asmLooseUptoRow.domain false Rows.asmLooseUptoRow.laid) (((Rows.OpenSpec.upto Rows.asmLooseSpec).at F).post enc Tryz.prog Tryz.f6 false true false false) := by
  obtain ⟨places, hx⟩ := reads os enc
  refine returnsInHanded_of_row (C := Tryz.checked) (s := Rows.OpenSpec.upto Rows.asmLooseSpec) own started (by kernel_rfl) Tryz.func6
    (witness_row_at (enc := enc) (C := Tryz.checked) false ({ World.holding Tryz.prog os ⟨#[.cells #[.string ⟨#[118, 97, 108, 117, 101, 32, 111, 117, 116, 32, 111, 102, 32, 114, 97, 110, 103, 101]⟩] 257, .cells #[.string ⟨#[105, 110, 118, 97, 108, 105, 100, 32, 115, 121, 110, 116, 97, 120]⟩] 257], #[], []⟩ with heap := (((((((((World.holding Tryz.prog os ⟨#[.cells #[.string ⟨#[118, 97, 108, 117, 101, 32, 111, 117, 116, 32, 111, 102, 32, 114, 97, 110, 103, 101]⟩] 257, .cells #[.string ⟨#[105, 110, 118, 97, 108, 105, 100, 32, 115, 121, 110, 116, 97, 120]⟩] 257], #[], []⟩).heap.modify 6 fun | .cells _ t frozen => .cells (vals Rows.laid_math_bits_deBruijn32tab) t frozen | o => o).modify 7 fun | .cells _ t frozen => .cells (vals Rows.laid_math_bits_deBruijn64tab) t frozen | o => o).modify 3 fun | .cells _ t frozen => .cells (vals Rows.laid_internal_strconv_uint64pow10) t frozen | o => o).modify 5 fun | .cells _ t frozen => .cells #[.iface 255 (.pointer (some ⟨(World.holding Tryz.prog default ⟨#[], #[], []⟩).heap.size, 0, none⟩))] t frozen | o => o).modify 4 fun | .cells _ t frozen => .cells #[.iface 255 (.pointer (some ⟨(World.holding Tryz.prog default ⟨#[], #[], []⟩).heap.size + 1, 0, none⟩))] t frozen | o => o).modify 2 fun | .cells _ t frozen => .cells nmCells t frozen | o => o).modify 1 fun | .cells _ t frozen => .cells nwCells t frozen | o => o).modify 0 fun | .cells _ t frozen => .cells #[.iface 190 (.agg #[.pointer (some ⟨8, 28, none⟩)])] t frozen | o => o) }) #[.slice none 0 0, .string .empty, .int .u8 0] rfl (by kernel_rfl) (by kernel_rfl) (by kernel_rfl)
      (OpenSpec.preRow_of_cond 8 hx (by kernel_rfl) (fun k hk => by cases hk; kernel_rfl) (by kernel_rfl) (laid_met os))) ?_
  intro W base args ds gs before hval hW q1 q2 hsz hL q3 q4
  exact contract H enc W base args ds gs before hval hW hsz hL (ng_of q3) (q2 _ rfl)

theorem said : Rows.AsmLooseUptoSaid :=
  OpenClaim.holds_of_cond 6 Tryz.f6 rfl rfl rfl rfl rfl rfl rfl ⟨rfl, rfl, rfl, rfl, rfl⟩ rfl rfl rfl rfl rfl (by kernel_rfl) Tryz.func6 (by kernel_rfl)
    (of_decide_eq_true (by kernel_rfl)) (by unfold Func.isWrapper; first | (rw [if_pos (by decide +kernel)]; kernel_rfl) | (rw [if_neg (by decide +kernel)]; exact ⟨rfl, rfl⟩))
    (fun os started H enc _ F => by rw [OpenClaim.pre_eq_preRow]; exact lifted os started H enc F)

theorem plain (f : FuncId) (fn : Func) (hf : Tryz.pinned.checked.prog.funcNamed "prelude/preludelaw04.AsmLoose" = some f) (hfn : Tryz.pinned.checked.prog.funcs[f]? = some fn) :
    Rows.asmLooseUptoCard.stood.looks = Tryz.pinned.checked.prog.looks [] ∧ ∀ (j : Nat) t, fn.params[j]? = some t → Tryz.pinned.checked.prog.wantsStandIn t = false := by
  obtain rfl : f = 6 := Option.some.inj ((show Tryz.prog.funcNamed "prelude/preludelaw04.AsmLoose" = some 6 by kernel_rfl).symm.trans hf) |>.symm
  obtain rfl : fn = Tryz.f6 := (Option.some.inj (Tryz.func6.symm.trans hfn)).symm
  refine ⟨by kernel_rfl, fun j t ht => ?_⟩
  rw [Tryz.params6] at ht
  have hmem := Array.mem_of_getElem? ht
  simp only [List.mem_toArray, List.mem_cons, List.not_mem_nil, or_false] at hmem
  rcases hmem with rfl | rfl | rfl
  · exact (show Tryz.prog.wantsStandIn 22 = false by kernel_rfl)
  · exact (show Tryz.prog.wantsStandIn 9 = false by kernel_rfl)
  · exact (show Tryz.prog.wantsStandIn 5 = false by kernel_rfl)

end asmLoose
open asmLoose in
/-- THE CARD -/
theorem asmLooseUpto_card : Rows.AsmLooseUptoCardSaid :=
  Claim7.holds_tied_plain_at .later [] _ _ _ _ said (fun _ h => by cases h) (by kernel_rfl) (fun _ h => by cases h) asmLooseUpto_row_tie rfl ⟨rfl, rfl⟩ (by kernel_rfl) rfl plain (by kernel_rfl)
#print axioms asmLooseUpto_card
end Go.Proofs.YtkmafpfldnapjaaGreatDoor
