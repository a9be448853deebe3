import Derived.Test.YtglodmmmcdjgcaaJ11
import Derived.Test.YtglodmmmcdjgcaaJ36
import Derived.ChangeOld
import Derived.ProofKit
import Derived.OpenShut
import Derived.SizedLaws
import Derived.Lib.SmallJoins
/-
  FROM THE READING OF A []api.Tx ARGUMENT TO ITS TRANSACTIONS.
-/
namespace Go.Proofs.Ytglodmmmcdjgcaa.Kk
open Go.ChangeShapes Go.WideShapes Go.ChangeAt Go.RowKit

theorem cells64 : Try.prog.cellsOf 2 = 1 := by kernel_rfl
theorem cellsTx : Try.prog.cellsOf 43 = 4 := by kernel_rfl
theorem cellsS64 : Try.prog.cellsOf 41 = 1 := by kernel_rfl
theorem cellsSK : Try.prog.cellsOf 30 = 1 := by kernel_rfl
theorem bytes64 : Try.prog.bytesOf 2 = 8 := by kernel_rfl
theorem bytesTx : Try.prog.bytesOf 43 = 80 := by kernel_rfl
set_option maxRecDepth 100000 in
theorem nums_of_trod {H : Type} {enc : TypeId × Value → H} {W : World} {fuel : Nat} {cs : List Value} {y : DataW H × List MemPlace}
    (hf : DataW.trod enc Try.prog W 0 (fun _ => true) true fuel 41 cs = some y) :
    ∃ (a : Option Addr) (len cap : Nat) (S : List Int), cs = [.slice a len cap] ∧ (len = S.length ∧ NumsAt W a S ∧ (a = none → cap = 0) ∧ len ≤ cap ∧ (∀ x ∈ S, In64 x)) ∧
      (len = 0 ∨ ∃ elems spare, y.1 = .slice elems spare ∧ len ≤ elems.length + spare.length) := by
  rcases Deep.open_slice Try.underlying41 hf with ⟨rfl, rfl⟩ | ⟨a, len, cap, m, n, D, Pl, rfl, hb, hl, hm, hmm, rfl, hx⟩
  · exact ⟨none, 0, 0, [], rfl, ⟨rfl, .inl rfl, fun _ => rfl, Nat.le_refl _, by simp⟩, .inl rfl⟩
  · have hle : len ≤ m := by rw [hmm]; simpa using hl
    rw [cells64] at hx
    obtain ⟨Z, hZ⟩ := Deep.choose_lt (α := Int) (n := len) (p := fun i k => ∃ b off, a.add (i * 1) = ⟨b, off, none⟩ ∧ W.cell? ⟨b, off, none⟩ = some (.int .i64 k) ∧ In64 k) (fun i hi => by
      obtain ⟨cs', h1, h2⟩ := hx i (by omega)
      obtain ⟨_, hlen, hcell⟩ := World.cells?_some h1
      obtain ⟨x, e, _, wx⟩ := DataW.trod_int Try.underlying2 h2
      subst e
      have e0 := hcell 0 (by omega)
      generalize a.add (i * 1) = ad at *
      obtain ⟨b, off, spot⟩ := ad
      have hspot : spot = none := by
        have h1 : (⟨b, off, spot⟩ : Addr).add 0 = ⟨b, off, spot⟩ := by simp [Addr.add]
        rw [h1] at e0
        exact World.cell?_spot e0
      subst hspot
      rw [Go.WideShapes.add_plain] at e0
      exact ⟨x, b, off, rfl, by simpa using e0, bounds_i64 wx⟩)
    refine ⟨some a, len, cap, (List.range len).map Z, rfl, ⟨by simp, ?_, by simp, by simpa using hl, ?_⟩, .inr ⟨_, _, rfl, by simp⟩⟩
    · by_cases h0 : len = 0
      · left; subst h0; rfl
      · right
        obtain ⟨b, off, h1, _⟩ := hZ 0 (by omega)
        have h1' : a = ⟨b, off, none⟩ := by simpa [Addr.add] using h1
        subst h1'
        refine ⟨b, off, rfl, fun j u hu => ?_⟩
        have hj : j < len := by have := (List.getElem?_eq_some_iff.1 hu).1; simpa using this
        obtain ⟨b', off', h2, h3, _⟩ := hZ j hj
        rw [Go.WideShapes.add_plain, Nat.mul_one] at h2
        simp only [Addr.mk.injEq, and_true] at h2
        obtain ⟨rfl, rfl⟩ := h2
        simp [hj] at hu
        rw [h3, ← hu]
    · intro x hx
      obtain ⟨i, hi, rfl⟩ := List.mem_map.1 hx
      obtain ⟨_, _, _, _, h5⟩ := hZ i (by simpa using hi)
      exact h5
/-- its parts are within reach -/
def SizedT {H : Type} (d : DataW H) : Prop := ∀ z ∈ d.weights Try.prog 43, z ≤ reachBytes
set_option maxRecDepth 100000 in
theorem tx_of_trod {H : Type} {enc : TypeId × Value → H} {W : World} {fuel : Nat} {a : Addr} {i : Nat} {cs : List Value} {y : DataW H × List MemPlace} (hc : W.cells? 0 (a.add (i * 4)) 4 = some cs)
    (hf : DataW.trod enc Try.prog W 0 (fun _ => true) true fuel 43 cs = some y) :
    ∃ (b off : Nat) (x : Bx), a.add (i * 4) = ⟨b, off, none⟩ ∧ (∀ j u, (bxc x)[j]? = some u → W.cell? ⟨b, off + j, none⟩ = some u) ∧ (SizedT y.1 → BxOK W x) := by
  obtain ⟨_, hlen, hcell⟩ := World.cells?_some hc
  obtain ⟨xs, k, hk, rfl, _, hxl, hf⟩ := DataW.trod_struct Try.underlying43 hf
  match xs, hxl, cs, hlen with
  | [y0, y1, y2, y3], _, [v0, v1, v2, v3], _ =>
    have g0 := hf 0 _ rfl
    have g1 := hf 1 _ rfl
    have g2 := hf 2 _ rfl
    have g3 := hf 3 _ rfl
    simp [cellsInt', cellsS64, cellsSK] at g0 g1 g2 g3
    generalize a.add (i * 4) = ad at *
    obtain ⟨b, off, spot⟩ := ad
    have hspot : spot = none := by
      have e0 := hcell 0 (by omega)
      have h1 : (⟨b, off, spot⟩ : Addr).add 0 = ⟨b, off, spot⟩ := by simp [Addr.add]
      rw [h1] at e0
      exact World.cell?_spot e0
    subst hspot
    obtain ⟨x0, h0, _, wx0⟩ := DataW.trod_int Try.underlying3 g0
    obtain ⟨aA, nA, cA, A, hA, ⟨lA, atA, nilA, capA, inA⟩, zA⟩ := nums_of_trod g1
    obtain ⟨aR, nR, cR, R, hR, ⟨lR, atR, nilR, capR, _, inR⟩, zR⟩ := keys_of_trod g2
    obtain ⟨aW, nW, cW, V, hV, ⟨lW, atW, nilW, capW, _, inW⟩, zW⟩ := keys_of_trod g3
    simp only [List.cons.injEq, and_true] at h0 hA hR hV
    subst h0 hA hR hV lA lR lW
    refine ⟨b, off, ⟨⟨x0, A, R, V⟩, aA, cA, aR, cR, aW, cW⟩, rfl, fun j u hu => ?_, fun hz => ?_⟩
    · have hj : j < 4 := (List.getElem?_eq_some_iff.1 hu).1
      have := hcell j hj
      rw [Go.WideShapes.add_plain] at this
      rw [this]; exact hu
    · simp only [SizedT, List.map_cons, List.map_nil, DataW.weights, Try.underlying43] at hz
      have bA : A.length * 8 ≤ reachBytes := by
        rcases zA with h0 | ⟨elems, spare, e, hle⟩
        · omega
        · have z2 := hz ((elems.length + spare.length) * 8) (by
            refine DataW.weights_mem_each (j := 1) (t := 41) (d := .slice elems spare) rfl (by rw [← e]; rfl) _ ?_
            simp [DataW.weights, Try.underlying41, bytes64])
          omega
      have bR : R.length * 16 ≤ reachBytes := by
        rcases zR with h0 | ⟨elems, spare, e, hle⟩
        · omega
        · have z2 := hz ((elems.length + spare.length) * 16) (by
            refine DataW.weights_mem_each (j := 2) (t := 30) (d := .slice elems spare) rfl (by rw [← e]; rfl) _ ?_
            simp [DataW.weights, Try.underlying30, bytesKey])
          omega
      have bW : V.length * 16 ≤ reachBytes := by
        rcases zW with h0 | ⟨elems, spare, e, hle⟩
        · omega
        · have z2 := hz ((elems.length + spare.length) * 16) (by
            refine DataW.weights_mem_each (j := 3) (t := 30) (d := .slice elems spare) rfl (by rw [← e]; rfl) _ ?_
            simp [DataW.weights, Try.underlying30, bytesKey])
          omega
      simp only [reachBytes] at bA bR bW
      exact ⟨atA, atR, atW, bounds_i64 wx0, inA, fun k hk => inR k hk, fun k hk => inW k hk, nilA, nilR, nilW, capA, capR, capW, by show A.length * 8 ≤ _; omega, by show R.length * 16 ≤ _; omega, by show V.length * 16 ≤ _; omega⟩
theorem weightsAll_mem {H : Type} {P : Program} {e : TypeId} : ∀ {ds : List (DataW H)} {d : DataW H}, d ∈ ds → ∀ z ∈ d.weights P e, z ∈ DataW.weightsAll P e ds
  | d0 :: ds, d, hd, z, hz => by
    simp only [DataW.weightsAll, List.mem_append]
    rcases List.mem_cons.1 hd with rfl | h
    · exact .inl hz
    · exact .inr (weightsAll_mem h z hz)
theorem bxcs_of {w : World} {b off : Nat} : ∀ (Ps : List Bx), (∀ i, i < Ps.length → ∀ j u, (bxc (bd Ps i))[j]? = some u → w.cell? ⟨b, off + i * 4 + j, none⟩ = some u) → ∀ j u, (bxcs Ps)[j]? = some u → w.cell? ⟨b, off + j, none⟩ = some u := by
  intro Ps h j u hu
  have hj : j < Ps.length * 4 := by rw [← bxcs_length]; exact (List.getElem?_eq_some_iff.1 hu).1
  obtain ⟨q, i, rfl, hi⟩ : ∃ q i, j = q * 4 + i ∧ i < 4 := ⟨j / 4, j % 4, by omega, Nat.mod_lt _ (by omega)⟩
  have hq : q < Ps.length := by omega
  rw [bxcs_at Ps q i hq hi] at hu
  have := h q hq i u hu
  rw [show off + q * 4 + i = off + (q * 4 + i) by omega] at this
  exact this
set_option maxRecDepth 100000 in
/-- what the reading of a slice of transactions gives -/
theorem bat_of_trod {H : Type} {enc : TypeId × Value → H} {W : World} {fuel : Nat} {cs : List Value} {y : DataW H × List MemPlace}
    (hf : DataW.trod enc Try.prog W 0 (fun _ => true) true fuel 22 cs = some y) :
    ∃ (a : Option Addr) (len cap : Nat) (Ps : List Bx), cs = [.slice a len cap] ∧ len = Ps.length ∧ len ≤ cap ∧ cap ≤ maxLen ∧ (a = none → cap = 0) ∧
      ((∀ z ∈ y.1.weights Try.prog 22, z ≤ reachBytes) → BatAt W a Ps ∧ len * 80 ≤ reachBytes) := by
  rcases Deep.open_slice Try.underlying22 hf with ⟨rfl, rfl⟩ | ⟨a, len, cap, m, n, D, Pl, rfl, hb, hl, hm, hmm, rfl, hx⟩
  · exact ⟨none, 0, 0, [], rfl, rfl, Nat.le_refl _, Nat.zero_le _, fun _ => rfl, fun _ => ⟨⟨.inl rfl, fun x hx => by cases hx⟩, by simp⟩⟩
  · have hle : len ≤ m := by rw [hmm]; simpa using hl
    have hI : Inhabited Bx := ⟨bxD⟩
    rw [cellsTx] at hx
    obtain ⟨Z, hZ⟩ := Deep.choose_lt (α := Bx) (n := len) (p := fun i x => ∃ b off, a.add (i * 4) = ⟨b, off, none⟩ ∧ (∀ j u, (bxc x)[j]? = some u → W.cell? ⟨b, off + j, none⟩ = some u) ∧ (SizedT (D i) → BxOK W x)) (fun i hi => by
      obtain ⟨cs', h1, h2⟩ := hx i (by omega)
      obtain ⟨b, off, x, h3⟩ := tx_of_trod h1 h2
      exact ⟨x, b, off, h3⟩)
    have hpd : ∀ i, i < len → bd ((List.range len).map Z) i = Z i := fun i hi => by simp [bd, List.getD_eq_getElem?_getD, hi]
    refine ⟨some a, len, cap, (List.range len).map Z, rfl, by simp, hl, hm, by simp, fun hz => ?_⟩
    simp only [DataW.weights, Try.underlying22, bytesTx, List.mem_cons, List.mem_append] at hz
    refine ⟨⟨?_, fun x hx' => ?_⟩, ?_⟩
    · by_cases h0 : len = 0
      · left; subst h0; rfl
      · right
        obtain ⟨b, off, h1, _⟩ := hZ 0 (by omega)
        have h1' : a = ⟨b, off, none⟩ := by simpa [Addr.add] using h1
        subst h1'
        refine ⟨b, off, rfl, bxcs_of ((List.range len).map Z) (fun i hi j u hu => ?_)⟩
        have hi' : i < len := by simpa using hi
        obtain ⟨b', off', h2, h3, _⟩ := hZ i hi'
        rw [Go.WideShapes.add_plain] at h2
        simp only [Addr.mk.injEq, and_true] at h2
        obtain ⟨rfl, rfl⟩ := h2
        rw [hpd i hi'] at hu
        exact h3 j u hu
    · obtain ⟨i, hi, rfl⟩ := List.mem_map.1 hx'
      have hi' : i < len := by simpa using hi
      obtain ⟨_, _, _, _, h4⟩ := hZ i hi'
      refine h4 (fun z hzz => hz z (.inr (.inl (weightsAll_mem (ds := (List.range len).map D) (List.mem_map.2 ⟨i, by simpa using hi', rfl⟩) z hzz))))
    · have := hz _ (.inl rfl)
      simp at this
      omega
end Go.Proofs.Ytglodmmmcdjgcaa.Kk
/-
  BatchWeighs: THE ROW.
-/
namespace Go.Proofs.Ytglodmmmcdjgcaa.batchWeighs
open Go.ChangeShapes Go.WideShapes Go.ChangeAt Go.RowKit

theorem weights_at {H : Type} {ts : List TypeId} {ds : List (DataW H)} {j : Nat} {t : TypeId} {d : DataW H} (h : (DataW.weightsEach Try.prog ts ds).all (· ≤ reachBytes) = true) (ht : ts[j]? = some t) (hd : ds[j]? = some d) : ∀ z ∈ d.weights Try.prog t, z ≤ reachBytes := fun z hz => by
  have := List.all_eq_true.1 h _ (DataW.weights_mem_each ht hd z hz)
  simpa using this
theorem own : ownKnob Try.prog.godebug = none := by kernel_rfl
theorem laidOut : laidOutB Try.prog = true := by kernel_rfl

set_option maxRecDepth 100000 in
theorem lifted (os : Os) (started : os.Started) (H : Type) (enc : TypeId × Value → H) :
    ReturnsInHanded {} Try.checked os 3 .any (Rows.batchWeighsSpec.pre6 enc Try.prog Try.f3 Rows.batchWeighsRow.domain false) (Rows.batchWeighsSpec.post enc Try.prog Try.f3 false true false false) := by
  refine returnsInHanded_of_change_sized (C := Try.checked) own started (by kernel_rfl) Try.func3
    (ChangeSpec.witness6 (enc := enc) (C := Try.checked) false ⟨#[], #[.slice none 0 0], []⟩ 8 (by kernel_rfl) (by kernel_rfl) (by kernel_rfl) (by kernel_rfl)) ?_
  intro W base args ds gs before hval0 hW hcnd hsz0 _
  have hval : ∀ (j : Nat) t v, Try.f3.params[j]? = some t → args[j]? = some v → Value.okWide Try.prog W .any base t v := hval0
  have hW' := hW
  obtain ⟨p, q, hA0, hV, rfl, hfz, hnd⟩ := hW
  have hA : DataW.TrodAll enc Try.prog W 0 (fun _ => true) true Try.f3.params.toList args.toList ds p := hA0
  have hsz0 : (DataW.weightsEach Try.prog (Try.f3.params.toList ++ Rows.batchWeighsSpec.plain.varTypes Try.prog) (ds ++ gs)).all (· ≤ reachBytes) = true := hsz0
  rw [Try.params3] at hA hval hsz0
  obtain ⟨v0, vs0, d0, ds0, p0, q0, hargs, rfl, rfl, h0, r0⟩ := trodAll_cons hA
  obtain ⟨rfl, rfl, rfl⟩ := trodAll_nil r0
  obtain rfl : args = #[v0] := by cases args; simp_all
  obtain ⟨rfl, rfl⟩ := trodVars_none hV
  obtain ⟨a_0, len_0, cap_0, rfl⟩ := okWide_slice Try.underlying22 (hval 0 22 v0 rfl rfl)
  have k0 := h0
  have lt0 : ∀ x ∈ p0, x.block < W.heap.size := by obtain ⟨m, hm⟩ := k0; exact DataW.trod_lt m _ _ _ hm
  obtain ⟨fuel0, hf0⟩ := h0
  obtain ⟨a0', len0', cap0', Bs_0, hcs0, hn_0, hlc_0, hcm_0, hnil_0, hx0⟩ := Kk.bat_of_trod hf0
  simp [Value.cells] at hcs0
  obtain ⟨rfl, rfl, rfl⟩ := hcs0
  obtain ⟨hl_0, hr_0⟩ := hx0 (weights_at hsz0 (j := 0) rfl rfl)
  have hrl_0 : len_0 ≤ 140737488351232 := by simp only [reachBytes] at hr_0; omega
  clear hA0 hval0
  refine (Kk.lawBWt W a_0 len_0 cap_0 Bs_0 hl_0 hn_0 hrl_0).mono fun e W' ⟨he, bel⟩ => ?_
  subst he
  exact ⟨_, rfl, _, _, _, [], _, [], hW', trodAll_mk1 (shut_bool Try.underlying4 _), (trodAll_cons_mk (Below.trod laidOut (by kernel_rfl) (of_decide_eq_true (by kernel_rfl)) k0 bel lt0) trodAll_mk0), rfl, bel.frame _, fun h => by cases h⟩

theorem proved : Rows.BatchWeighsSaid :=
  OpenClaim.holds_of_wide 3 Try.f3 rfl rfl rfl rfl rfl rfl rfl ⟨rfl, rfl, rfl, rfl, rfl⟩ rfl rfl rfl rfl rfl (by kernel_rfl) Try.func3 (by kernel_rfl)
    (of_decide_eq_true (by kernel_rfl)) (by unfold Func.isWrapper; first | (rw [if_pos (by decide +kernel)]; kernel_rfl) | (rw [if_neg (by decide +kernel)]; exact ⟨rfl, rfl⟩))
    (fun os started H enc _ => lifted os started H enc)
end Go.Proofs.Ytglodmmmcdjgcaa.batchWeighs
namespace Go.Proofs.Ytglodmmmcdjgcaa
theorem batchWeighs_holds : Rows.BatchWeighsSaid := batchWeighs.proved
#print axioms batchWeighs_holds
end Go.Proofs.Ytglodmmmcdjgcaa
