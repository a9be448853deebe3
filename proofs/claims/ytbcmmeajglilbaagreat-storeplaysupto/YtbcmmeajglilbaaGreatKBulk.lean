import Derived.Test.YtbcmmeajglilbaaGreatRows
import Derived.Test.YtbcmmeajglilbaaGreatKLawSPlays
import Derived.SizedLaws
import Derived.Lib.SmallJoins
import Derived.Deep.Slices
import Derived.OpenShut
import Derived.ChangeOld
import Derived.ProofKit
import Derived.JoinedCond
/-
  WHAT THE BOUND ON THE BULK GIVES.
-/
namespace Go.Proofs.YtbcmmeajglilbaaGreat

theorem bulk_one {H : Type} (d : DataW H) : 1 ≤ Rows.uptoBulk d := by
  cases d with
  | lit l => cases l <;> simp [Rows.uptoBulk]
  | _ => simp [Rows.uptoBulk]
theorem bulk_length {H : Type} (l : List (DataW H)) : l.length ≤ Rows.uptoBulkAll l := by
  induction l with
  | nil => simp [Rows.uptoBulkAll]
  | cons x r ih => have := bulk_one x; simp only [Rows.uptoBulkAll, List.length_cons]; omega
theorem bulk_slice {H : Type} (elems spare : List (DataW H)) : elems.length + spare.length + 1 ≤ Rows.uptoBulk (.slice elems spare) := by
  have h1 := bulk_length elems
  have h2 := bulk_length spare
  simp only [Rows.uptoBulk]
  omega
theorem bulk_bytes {H : Type} {d : DataW H} {len : Nat} (h : len = 0 ∨ ∃ elems spare, d = .slice elems spare ∧ len ≤ elems.length + spare.length) : len + 1 ≤ Rows.uptoBulk d := by
  rcases h with h | ⟨elems, spare, rfl, hl⟩
  · have := bulk_one d; omega
  · have := bulk_slice elems spare; omega
theorem bulk_of_small {H : Type} {l : List (DataW H)} (h : Rows.uptoSmall H l = true) : Rows.uptoBulkAll l ≤ 1048576 := of_decide_eq_true h

end Go.Proofs.YtbcmmeajglilbaaGreat
/-
  FROM THE READING OF A []Op ARGUMENT (layer 9) TO ITS CALLS.
-/
namespace Go.Proofs.YtbcmmeajglilbaaGreat
open Go.ChangeShapes Go.WideShapes Go.ChangeAt Go.RowKit

theorem cellsSq : Tryz.prog.cellsOf 45 = 10 := by kernel_rfl
theorem cellsIntS : Tryz.prog.cellsOf 3 = 1 := by kernel_rfl
theorem cellsInt64S : Tryz.prog.cellsOf 2 = 1 := by kernel_rfl
theorem cellsBoolS : Tryz.prog.cellsOf 4 = 1 := by kernel_rfl
theorem cellsKeyS : Tryz.prog.cellsOf 41 = 2 := by kernel_rfl
theorem cellsCellS : Tryz.prog.cellsOf 43 = 2 := by kernel_rfl
section
variable {H : Type} {enc : TypeId × Value → H} {W : World}
set_option maxRecDepth 100000 in
theorem sq_of_trod {fuel : Nat} {cs : List Value} {y : DataW H × List MemPlace} (hl : cs.length = 10) (hf : DataW.trod enc Tryz.prog W 0 (fun _ => true) true fuel 45 cs = some y) :
    ∃ o : Oq, cs = (oqC o).toList ∧ OqIn o ∧ 9 ≤ Rows.uptoBulk y.1 := by
  obtain ⟨ys, k, hk, hxy, _, hxl, hf⟩ := DataW.trod_struct Tryz.underlying45 hf
  have hbk : 9 ≤ Rows.uptoBulk y.1 := by
    rw [hxy]
    simp only [Rows.uptoBulk]
    have h1 := bulk_length (ys.map (·.1))
    rw [List.length_map, hxl] at h1
    have h2 : (8 : Nat) ≤ Rows.uptoBulkAll (ys.map (·.1)) := h1
    omega
  match ys, hxl, cs, hl with
  | [y0, y1, y2, y3, y4, y5, y6, y7], _, [v0, v1, v2, v3, v4, v5, v6, v7, v8, v9], _ =>
    have g0 := hf 0 _ rfl
    have g1 := hf 1 _ rfl
    have g2 := hf 2 _ rfl
    have g3 := hf 3 _ rfl
    have g4 := hf 4 _ rfl
    have g5 := hf 5 _ rfl
    have g6 := hf 6 _ rfl
    have g7 := hf 7 _ rfl
    simp [cellsIntS, cellsBoolS, cellsKeyS, cellsCellS] at g0 g1 g2 g3 g4 g5 g6 g7
    obtain ⟨x0, h0, _, _⟩ := DataW.trod_int Tryz.underlying3 g0
    obtain ⟨x2, h2, _, w2⟩ := DataW.trod_int Tryz.underlying3 g2
    obtain ⟨x3, h3, _, w3⟩ := DataW.trod_int Tryz.underlying3 g3
    obtain ⟨x4, h4, _, w4⟩ := DataW.trod_int Tryz.underlying3 g4
    obtain ⟨x5, h5, _, _⟩ := DataW.trod_int Tryz.underlying3 g5
    obtain ⟨x7, h7, _⟩ := DataW.trod_bool Tryz.underlying4 g7
    obtain ⟨zs, kz, _, _, _, hzl, hz⟩ := DataW.trod_struct Tryz.underlying41 g1
    obtain ⟨cs2, kc, _, _, _, hcl, hc⟩ := DataW.trod_struct Tryz.underlying43 g6
    match zs, hzl, cs2, hcl with
    | [u0, u1], _, [c0, c1], _ =>
      have q0 := hz 0 _ rfl
      have q1 := hz 1 _ rfl
      have r0 := hc 0 _ rfl
      have r1 := hc 1 _ rfl
      simp [cellsIntS, cellsInt64S, cellsBoolS] at q0 q1 r0 r1
      obtain ⟨t0, m0, _, e0⟩ := DataW.trod_int Tryz.underlying3 q0
      obtain ⟨t1, m1, _, e1⟩ := DataW.trod_int Tryz.underlying2 q1
      obtain ⟨s0, n0, _⟩ := DataW.trod_bool Tryz.underlying4 r0
      obtain ⟨s1, n1, _, e2⟩ := DataW.trod_int Tryz.underlying2 r1
      simp only [List.cons.injEq, and_true] at h0 h2 h3 h4 h5 h7 m0 m1 n0 n1
      subst h0 h2 h3 h4 h5 h7 m0 m1 n0 n1
      exact ⟨⟨x0, t0, t1, x2, x3, x4, x5, s0, s1, x7⟩, rfl, ⟨⟨bounds_i64 e0, bounds_i64 e1⟩, bounds_i64 w2, bounds_i64 w3, bounds_i64 w4, bounds_i64 e2⟩, hbk⟩
theorem bulk_each {D : Nat → DataW H} {c : Nat} : ∀ (n : Nat), (∀ i, i < n → c ≤ Rows.uptoBulk (D i)) → n * c ≤ Rows.uptoBulkAll ((List.range n).map D)
  | 0, _ => by simp
  | n + 1, h => by
    have h1 := bulk_each n (fun i hi => h i (by omega))
    have h2 := h n (by omega)
    have e : ∀ (l : List (DataW H)) (d : DataW H), Rows.uptoBulkAll (l ++ [d]) = Rows.uptoBulkAll l + Rows.uptoBulk d := fun l d => by
      induction l with
      | nil => simp [Rows.uptoBulkAll]
      | cons x r ih => simp only [List.cons_append, Rows.uptoBulkAll, ih]; omega
    rw [List.range_succ, List.map_append, List.map_singleton, e, Nat.succ_mul]
    omega
set_option maxRecDepth 100000 in
theorem sqs_of_trod {fuel : Nat} {cs : List Value} {y : DataW H × List MemPlace} (hf : DataW.trod enc Tryz.prog W 0 (fun _ => true) true fuel 24 cs = some y) :
    ∃ (a : Option Addr) (len cap : Nat) (xs : List Oq), cs = [.slice a len cap] ∧ len = xs.length ∧ OqsAt W a xs ∧ (∀ x ∈ xs, OqIn x) ∧ len * 9 ≤ Rows.uptoBulk y.1 := by
  have hI : Inhabited Oq := ⟨⟨0, 0, 0, 0, 0, 0, 0, false, 0, false⟩⟩
  rcases Deep.open_slice Tryz.underlying24 hf with ⟨rfl, rfl⟩ | ⟨a, len, cap, m, n, D, Pl, rfl, hb, hle0, hm, hmm, rfl, hx⟩
  · exact ⟨none, 0, 0, [], rfl, rfl, fun i hi => by simp at hi, by simp, by simp⟩
  · have hle : len ≤ m := by rw [hmm]; simpa using hle0
    rw [cellsSq] at hx
    obtain ⟨Z, hZ⟩ := Deep.choose_lt (α := Oq) (n := len) (p := fun i x => (∃ b off, a.add (i * 10) = ⟨b, off, none⟩ ∧ ∀ j u, (oqC x)[j]? = some u → W.cell? ⟨b, off + j, none⟩ = some u) ∧ OqIn x ∧ 9 ≤ Rows.uptoBulk (D i)) (fun i hi => by
      obtain ⟨cs', h1, h2⟩ := hx i (by omega)
      obtain ⟨_, hlen, hcell⟩ := World.cells?_some h1
      obtain ⟨x, rfl, hP, hB⟩ := sq_of_trod hlen h2
      refine ⟨x, ?_, hP, hB⟩
      generalize a.add (i * 10) = ad at *
      obtain ⟨b, off, spot⟩ := ad
      have hspot : spot = none := by
        have e0 := hcell 0 (by omega)
        have h1 : (⟨b, off, spot⟩ : Addr).add 0 = ⟨b, off, spot⟩ := by simp [Addr.add]
        rw [h1, List.getElem?_eq_getElem (by omega)] at e0
        exact World.cell?_spot e0
      subst hspot
      refine ⟨b, off, rfl, fun j u hu => ?_⟩
      have hu' : (oqC x).toList[j]? = some u := by simpa using hu
      have := hcell j (by have := (List.getElem?_eq_some_iff.1 hu').1; omega)
      rw [Go.WideShapes.add_plain] at this
      rw [this]
      exact hu')
    refine ⟨some a, len, cap, (List.range len).map Z, rfl, by simp, fun i hi => ?_, fun x hxm => ?_, ?_⟩
    · have hi' : i < len := by simpa using hi
      have e : ((List.range len).map Z)[i] = Z i := by simp
      rw [e]
      obtain ⟨⟨b, off, h1, _⟩, _⟩ := hZ 0 (by omega)
      have h1' : a = ⟨b, off, none⟩ := by simpa [Addr.add] using h1
      subst h1'
      obtain ⟨⟨b', off', h2, h3⟩, _⟩ := hZ i hi'
      rw [Go.WideShapes.add_plain] at h2
      simp only [Addr.mk.injEq, and_true] at h2
      obtain ⟨rfl, rfl⟩ := h2
      exact ⟨b, off, rfl, h3⟩
    · obtain ⟨i, hi, rfl⟩ := List.mem_map.1 hxm
      exact (hZ i (by simpa using hi)).2.1
    · have h1 := bulk_each (D := D) (c := 9) len (fun i hi => (hZ i hi).2.2)
      simp only [Rows.uptoBulk]
      omega
end
end Go.Proofs.YtbcmmeajglilbaaGreat
/-
  StorePlays: THE ROW.
-/
namespace Go.Proofs.YtbcmmeajglilbaaGreat.storePlays
open Go.ChangeShapes Go.WideShapes Go.ChangeAt Go.RowKit

theorem own : ownKnob Tryz.prog.godebug = none := by kernel_rfl
theorem laidOut : laidOutB Tryz.prog = true := by kernel_rfl

set_option maxRecDepth 100000 in
theorem contract (H : Type) (enc : TypeId × Value → H) (W : World) (base : Nat) (args : Array Value) (ds gs : List (DataW H)) (before : List MemPlace)
    (hval : ∀ (j : Nat) t v, Tryz.f3.params[j]? = some t → args[j]? = some v → Value.okWide Tryz.prog W .any base t v)
    (hW : DataW.Whole enc Tryz.prog Tryz.f3.params.toList Rows.storePlaysSpec.vars false W args.toList ds gs before) (hk : Rows.uptoSmall H (ds ++ gs) = true) :
    Calls Tryz.prog 3 args W fun e W' => ∃ v, e = .returned v ∧ Rows.storePlaysSpec.post enc Tryz.prog Tryz.f3 false true false false W args v W' := by
  have hW' := hW
  obtain ⟨p, q, hA0, hV, rfl, hfz, hnd⟩ := hW
  have hA : DataW.TrodAll enc Tryz.prog W 0 (fun _ => true) true Tryz.f3.params.toList args.toList ds p := hA0
  rw [Tryz.params3] at hA hval
  obtain ⟨v0, vs0, d0, ds0, p0, q0, hargs, rfl, rfl, h0, r0⟩ := trodAll_cons hA
  obtain ⟨v1, vs1, d1, ds1, p1, q1, rfl, rfl, rfl, h1, r1⟩ := trodAll_cons r0
  obtain ⟨v2, vs2, d2, ds2, p2, q2, rfl, rfl, rfl, h2, r2⟩ := trodAll_cons r1
  obtain ⟨rfl, rfl, rfl⟩ := trodAll_nil r2
  obtain rfl : args = #[v0, v1, v2] := by cases args; simp_all
  obtain ⟨rfl, rfl⟩ := trodVars_none hV
  have hbulk := bulk_of_small hk
  simp only [List.append_nil, Rows.uptoBulkAll] at hbulk
  have k0 := h0
  have lt0 : ∀ x ∈ p0, x.block < W.heap.size := by obtain ⟨m, hm⟩ := k0; exact DataW.trod_lt m _ _ _ hm
  obtain ⟨c0_0, c1_0, y0_0, y1_0, m_0, rfl, rfl, rfl, hy0_0, hy1_0⟩ := Joins.open_agg2 Tryz.underlying23 (by kernel_rfl) (by kernel_rfl) (hval 0 23 v0 rfl rfl) h0
  obtain ⟨b_0, e0_0, _, _⟩ := DataW.trod_int Tryz.underlying3 hy0_0
  obtain ⟨x_0, e1_0, _, _⟩ := DataW.trod_int Tryz.underlying3 hy1_0
  simp only [List.cons.injEq, and_true] at e0_0 e1_0
  subst e0_0 e1_0
  clear hy0_0 hy1_0
  have k1 := h1
  have lt1 : ∀ x ∈ p1, x.block < W.heap.size := by obtain ⟨m, hm⟩ := k1; exact DataW.trod_lt m _ _ _ hm
  obtain ⟨c0_1, c1_1, y0_1, y1_1, m_1, rfl, rfl, rfl, hy0_1, hy1_1⟩ := Joins.open_agg2 Tryz.underlying23 (by kernel_rfl) (by kernel_rfl) (hval 1 23 v1 rfl rfl) h1
  obtain ⟨b_1, e0_1, _, _⟩ := DataW.trod_int Tryz.underlying3 hy0_1
  obtain ⟨x_1, e1_1, _, _⟩ := DataW.trod_int Tryz.underlying3 hy1_1
  simp only [List.cons.injEq, and_true] at e0_1 e1_1
  subst e0_1 e1_1
  clear hy0_1 hy1_1
  obtain ⟨a_2, len_2, cap_2, rfl⟩ := okWide_slice Tryz.underlying24 (hval 2 24 v2 rfl rfl)
  have k2 := h2
  have lt2 : ∀ x ∈ p2, x.block < W.heap.size := by obtain ⟨m, hm⟩ := k2; exact DataW.trod_lt m _ _ _ hm
  obtain ⟨fuel2, hf2⟩ := h2
  obtain ⟨a2', len2', cap2', S_2, hcs2, ln_2, hs_2, inS_2, hu_2⟩ := sqs_of_trod hf2
  simp [Value.cells] at hcs2
  obtain ⟨rfl, rfl, rfl⟩ := hcs2
  simp only at hu_2
  clear hA0
  refine (law_splays W b_0 x_0 b_1 x_1 a_2 len_2 cap_2 S_2 ln_2 hs_2 inS_2 (by omega)).mono fun e W' ⟨he, bel⟩ => ?_
  subst he
  exact ⟨_, rfl, _, _, _, [], _, [], hW', trodAll_mk1 (shut_bool Tryz.underlying4 _), (trodAll_cons_mk (Below.trod laidOut (by kernel_rfl) (of_decide_eq_true (by kernel_rfl)) k0 bel lt0) (trodAll_cons_mk (Below.trod laidOut (by kernel_rfl) (of_decide_eq_true (by kernel_rfl)) k1 bel lt1) (trodAll_cons_mk (Below.trod laidOut (by kernel_rfl) (of_decide_eq_true (by kernel_rfl)) k2 bel lt2) trodAll_mk0))), rfl, bel.frame _, fun h => by cases h⟩

set_option maxRecDepth 100000 in
theorem lifted (os : Os) (started : os.Started) (H : Type) (enc : TypeId × Value → H) (F : Stop.Interp) :
    ReturnsInHanded {} Tryz.checked os 3 .any ((Rows.OpenSpec.upto Rows.storePlaysSpec).pre6 enc Tryz.prog Tryz.f3 Rows.storePlaysUptoRow.domain false) (((Rows.OpenSpec.upto Rows.storePlaysSpec).at F).post enc Tryz.prog Tryz.f3 false true false false) := by
  refine returnsInHanded_of_cond (C := Tryz.checked) (s := Rows.OpenSpec.upto Rows.storePlaysSpec) (k := Rows.uptoSmall) rfl own started (by kernel_rfl) Tryz.func3
    (OpenSpec.witness (enc := enc) (C := Tryz.checked) (s := Rows.OpenSpec.upto Rows.storePlaysSpec) (k := Rows.uptoSmall) rfl false ⟨#[], #[.agg #[.int .i64 0, .int .i64 0], .agg #[.int .i64 0, .int .i64 0], .slice none 0 0], []⟩ 8 (by kernel_rfl) (by kernel_rfl) (by kernel_rfl)
      (x := ([.agg [.lit (.int .i64 0), .lit (.int .i64 0)], .agg [.lit (.int .i64 0), .lit (.int .i64 0)], .nil], [], [])) (by kernel_rfl) rfl (by kernel_rfl)) ?_
  intro W base args ds gs before hval hW _ hk _
  exact contract H enc W base args ds gs before hval hW hk

theorem proved : Rows.StorePlaysUptoSaid :=
  OpenClaim.holds_of_cond 3 Tryz.f3 rfl rfl rfl rfl rfl rfl rfl ⟨rfl, rfl, rfl, rfl, rfl⟩ rfl rfl rfl rfl rfl (by kernel_rfl) Tryz.func3 (by kernel_rfl)
    (of_decide_eq_true (by kernel_rfl)) (by unfold Func.isWrapper; first | (rw [if_pos (by decide +kernel)]; kernel_rfl) | (rw [if_neg (by decide +kernel)]; exact ⟨rfl, rfl⟩))
    (fun os started H enc _ F => lifted os started H enc F)
end Go.Proofs.YtbcmmeajglilbaaGreat.storePlays
namespace Go.Proofs.YtbcmmeajglilbaaGreat
theorem storePlaysUpto_holds : Rows.StorePlaysUptoSaid := storePlays.proved
#print axioms storePlaysUpto_holds
end Go.Proofs.YtbcmmeajglilbaaGreat
