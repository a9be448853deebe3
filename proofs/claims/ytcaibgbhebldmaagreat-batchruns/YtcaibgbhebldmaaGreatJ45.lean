import Derived.Test.YtcaibgbhebldmaaGreatJ03
import Derived.SizedLaws
import Derived.Lib.SmallJoins
import Derived.Test.YtcaibgbhebldmaaGreatJ41
import Derived.Test.YtcaibgbhebldmaaGreatJ07
import Derived.Test.YtcaibgbhebldmaaGreatJ44
import Derived.ChangeOld
import Derived.ProofKit
import Derived.OpenShut
/-
  FROM THE READING OF A []byte ARGUMENT (OR FIELD) TO ITS BYTES.
-/
namespace Go.Proofs.YtcaibgbhebldmaaGreat
open Go.ChangeShapes Go.WideShapes Go.ChangeAt Go.RowKit

theorem bytesAt_of_ints {W : World} {a : Addr} {len cap : Nat} {zs : List Int} (hl : len ≤ cap) (hz : zs.length = cap)
    (hcell : ∀ i, i < zs.length → W.cell? (a.add i) = some (.int .u8 (zs.getD i 0))) (hwf : ∀ n ∈ zs, (Lit.int .u8 n).wf = true) :
    BytesAt W (some a) ((zs.take len).map Int.toNat) := by
  have hb : ∀ n ∈ zs, 0 ≤ n ∧ n ≤ 255 := fun n hn => bounds_u8 (hwf n hn)
  refine ⟨?_, ?_⟩
  · intro z hz'
    obtain ⟨n, hn, rfl⟩ := List.mem_map.1 hz'
    have := hb n (List.mem_of_mem_take hn)
    omega
  · by_cases h0 : zs = []
    · left; simp [h0]
    · right
      obtain ⟨b, off, rfl, hc⟩ := ints_at hcell (by cases zs with | nil => exact absurd rfl h0 | cons z zs => simp)
      refine ⟨b, off, rfl, fun j hj => ?_⟩
      have hj' : j < len := by simp at hj; omega
      rw [hc j (by omega)]
      have hjz : j < zs.length := by omega
      have := hb zs[j] (List.getElem_mem hjz)
      simp [List.getD_eq_getElem?_getD, hj', List.getElem?_eq_getElem hjz]
      omega

/-- what the reading of a slice of bytes gives -/
theorem bytes_of_trod {H : Type} {enc : TypeId × Value → H} {W : World} {fuel : Nat} {cs : List Value} {y : DataW H × List MemPlace}
    (hf : DataW.trod enc Tryz.prog W 0 (fun _ => true) true fuel 23 cs = some y) :
    ∃ (a : Option Addr) (len cap : Nat) (zs : List Nat), cs = [.slice a len cap] ∧ len = zs.length ∧ BytesAt W a zs ∧ (a = none → cap = 0) ∧ len ≤ cap ∧ cap ≤ maxLen ∧
      (len = 0 ∨ ∃ elems spare, y.1 = .slice elems spare ∧ len ≤ elems.length + spare.length) := by
  rcases open_ints Tryz.underlying23 Tryz.underlying5 (by kernel_rfl) hf with ⟨hcs, _⟩ | ⟨x, l, c, zs, hcs, _, hl, hm, hz, hx, hcell, hwz⟩
  · exact ⟨none, 0, 0, [], hcs, rfl, ⟨by simp, .inl rfl⟩, fun _ => rfl, Nat.le_refl _, Nat.zero_le _, .inl rfl⟩
  · have hz' : zs.length = c := by simpa using hz
    refine ⟨some x, l, c, (zs.take l).map Int.toNat, hcs, by simp; omega, bytesAt_of_ints hl hz' hcell hwz, by simp, hl, hm, .inr ⟨_, _, by rw [hx], ?_⟩⟩
    simp only [lits, List.length_map, List.length_take, List.length_drop]
    omega
/-- .. and that its reach is bounded: the j-th of what is weighed -/
theorem len_of_sized {H : Type} {ts : List TypeId} {ds : List (DataW H)} {j len : Nat} {d : DataW H} (h : (DataW.weightsEach Tryz.prog ts ds).all (· ≤ reachBytes) = true) (ht : ts[j]? = some 23) (hd : ds[j]? = some d)
    (hx : len = 0 ∨ ∃ elems spare, d = .slice elems spare ∧ len ≤ elems.length + spare.length) : len ≤ 140737488351232 := by
  rcases hx with h0 | ⟨elems, spare, rfl, hl⟩
  · omega
  · have h1 := sized_slice h ht hd Tryz.underlying23
    rw [bytes8] at h1
    simp only [reachBytes] at h1
    omega
/-- the weights of a struct's fields -/
theorem sized_struct {H : Type} {P : Program} {ts : List TypeId} {ds parts : List (DataW H)} {j : Nat} {t : TypeId} {fs : Array Field} (h : (DataW.weightsEach P ts ds).all (· ≤ reachBytes) = true) (ht : ts[j]? = some t) (hd : ds[j]? = some (.agg parts))
    (hu : P.underlying t = some (.struct fs)) : (DataW.weightsEach P (fs.toList.map (·.type)) parts).all (· ≤ reachBytes) = true := by
  rw [List.all_eq_true] at *
  intro n hn
  exact h n (DataW.weights_mem_each ht hd n (by simpa [DataW.weights, hu] using hn))

end Go.Proofs.YtcaibgbhebldmaaGreat
/-
  FROM THE READING OF A []api.Proc ARGUMENT TO ITS PROCEDURES.
-/
namespace Go.Proofs.YtcaibgbhebldmaaGreat
open Go.ChangeShapes Go.WideShapes Go.ChangeAt Go.RowKit

theorem cellsProc : Tryz.prog.cellsOf 52 = 6 := by kernel_rfl
theorem cellsStr : Tryz.prog.cellsOf 9 = 1 := by kernel_rfl
theorem bytesProc : Tryz.prog.bytesOf 52 = 72 := by kernel_rfl
/-- its parts are within reach -/
def SizedP {H : Type} (d : DataW H) : Prop := ∀ z ∈ d.weights Tryz.prog 52, z ≤ reachBytes
set_option maxRecDepth 100000 in
theorem proc_of_trod {H : Type} {enc : TypeId × Value → H} {W : World} {fuel : Nat} {a : Addr} {i : Nat} {cs : List Value} {y : DataW H × List MemPlace} (hc : W.cells? 0 (a.add (i * 6)) 6 = some cs)
    (hf : DataW.trod enc Tryz.prog W 0 (fun _ => true) true fuel 52 cs = some y) :
    ∃ (b off : Nat) (x : Pr), a.add (i * 6) = ⟨b, off, none⟩ ∧ (∀ j u, (prc x)[j]? = some u → W.cell? ⟨b, off + j, none⟩ = some u) ∧ (SizedP y.1 → PrOK W x) := by
  obtain ⟨_, hlen, hcell⟩ := World.cells?_some hc
  obtain ⟨xs, k, hk, rfl, _, hxl, hf⟩ := DataW.trod_struct Tryz.underlying52 hf
  match xs, hxl, cs, hlen with
  | [y0, y1], _, [v0, v1, v2, v3, v4, v5], _ =>
    have g0 := hf 0 _ rfl
    have g1 := hf 1 _ rfl
    simp [cellsStr, cellsProg] at g0 g1
    generalize a.add (i * 6) = ad at *
    obtain ⟨b, off, spot⟩ := ad
    have hspot : spot = none := by
      have e0 := hcell 0 (by omega)
      have h1 : (⟨b, off, spot⟩ : Addr).add 0 = ⟨b, off, spot⟩ := by simp [Addr.add]
      rw [h1] at e0
      exact World.cell?_spot e0
    subst hspot
    obtain ⟨s, hs0, hs1⟩ := DataW.trod_string Tryz.underlying9 g0
    obtain ⟨p, a1, len, cap, ks, hpv, hnin, ⟨hl, hks, hnil, hlc, hcm, hkin⟩, x0, x1, x2, x3, x4, hy1, hx4⟩ := prog_of_cells g1
    simp only [Value.agg.injEq, Array.mk.injEq, List.cons.injEq, and_true] at hpv
    obtain ⟨rfl, rfl, rfl, rfl, rfl⟩ := hpv
    simp only [List.cons.injEq, and_true] at hs0
    subst hs0
    obtain ⟨rfl, hs1⟩ := hs1
    refine ⟨b, off, ⟨s, p, a1, len, cap, ks⟩, rfl, fun j u hu => ?_, fun hz => ?_⟩
    · have hj : j < 6 := (List.getElem?_eq_some_iff.1 hu).1
      have := hcell j hj
      rw [Go.WideShapes.add_plain] at this
      rw [this]; exact hu
    · simp only [SizedP, List.map_cons, List.map_nil, DataW.weights, Tryz.underlying52, DataW.weightsEach, List.append_nil, List.mem_append] at hz
      have z1 := hz s.data.toList.length (.inl (by simp))
      refine ⟨hl, hks, hnin, fun k hk => hkin k hk, hnil, ?_, ?_⟩
      · have e1 : s.size = s.data.size := rfl
        have e2 : s.data.toList.length = s.data.size := Array.length_toList
        simp only [reachBytes] at z1
        show s.size ≤ _
        omega
      · show len * 16 ≤ _
        rcases hx4 with h0 | ⟨elems, spare, rfl, hle⟩
        · omega
        · have z2 := hz ((elems.length + spare.length) * 16) (.inr (by
            rw [hy1]
            simp only [DataW.weights, Tryz.underlying50]
            refine DataW.weights_mem_each (j := 4) (t := 48) (d := .slice elems spare) rfl rfl _ ?_
            simp [DataW.weights, Tryz.underlying48, bytesKey]))
          simp only [reachBytes] at z2
          omega
theorem weightsAll_mem {H : Type} {P : Program} {e : TypeId} : ∀ {ds : List (DataW H)} {d : DataW H}, d ∈ ds → ∀ z ∈ d.weights P e, z ∈ DataW.weightsAll P e ds
  | d0 :: ds, d, hd, z, hz => by
    simp only [DataW.weightsAll, List.mem_append]
    rcases List.mem_cons.1 hd with rfl | h
    · exact .inl hz
    · exact .inr (weightsAll_mem h z hz)
theorem prcs_of {w : World} {b off : Nat} : ∀ (Ps : List Pr) (d : Nat), (∀ i, i < Ps.length → ∀ j u, (prc (pd Ps i))[j]? = some u → w.cell? ⟨b, off + (d + i) * 6 + j, none⟩ = some u) → ∀ j u, (prcs Ps)[j]? = some u → w.cell? ⟨b, off + d * 6 + j, none⟩ = some u := by
  intro Ps d h j u hu
  have hj : j < Ps.length * 6 := by rw [← prcs_length]; exact (List.getElem?_eq_some_iff.1 hu).1
  obtain ⟨q, i, rfl, hi⟩ : ∃ q i, j = q * 6 + i ∧ i < 6 := ⟨j / 6, j % 6, by omega, Nat.mod_lt _ (by omega)⟩
  have hq : q < Ps.length := by omega
  rw [prcs_at Ps q i hq hi] at hu
  have := h q hq i u hu
  rw [show off + (d + q) * 6 + i = off + d * 6 + (q * 6 + i) by omega] at this
  exact this
set_option maxRecDepth 100000 in
/-- what the reading of a slice of procedures gives -/
theorem lib_of_trod {H : Type} {enc : TypeId × Value → H} {W : World} {fuel : Nat} {cs : List Value} {y : DataW H × List MemPlace}
    (hf : DataW.trod enc Tryz.prog W 0 (fun _ => true) true fuel 22 cs = some y) :
    ∃ (a : Option Addr) (len cap : Nat) (Ps : List Pr), cs = [.slice a len cap] ∧ len = Ps.length ∧ len ≤ cap ∧ cap ≤ maxLen ∧ (a = none → cap = 0) ∧
      ((∀ z ∈ y.1.weights Tryz.prog 22, z ≤ reachBytes) → LibAt W a Ps ∧ len * 72 ≤ reachBytes) := by
  rcases Deep.open_slice Tryz.underlying22 hf with ⟨rfl, rfl⟩ | ⟨a, len, cap, m, n, D, Pl, rfl, hb, hl, hm, hmm, rfl, hx⟩
  · exact ⟨none, 0, 0, [], rfl, rfl, Nat.le_refl _, Nat.zero_le _, fun _ => rfl, fun _ => ⟨⟨.inl rfl, fun x hx => by cases hx⟩, by simp⟩⟩
  · have hle : len ≤ m := by rw [hmm]; simpa using hl
    have hI : Inhabited Pr := ⟨prD⟩
    rw [cellsProc] at hx
    obtain ⟨Z, hZ⟩ := Deep.choose_lt (α := Pr) (n := len) (p := fun i x => ∃ b off, a.add (i * 6) = ⟨b, off, none⟩ ∧ (∀ j u, (prc x)[j]? = some u → W.cell? ⟨b, off + j, none⟩ = some u) ∧ (SizedP (D i) → PrOK W x)) (fun i hi => by
      obtain ⟨cs', h1, h2⟩ := hx i (by omega)
      obtain ⟨b, off, x, h3⟩ := proc_of_trod h1 h2
      exact ⟨x, b, off, h3⟩)
    have hpd : ∀ i, i < len → pd ((List.range len).map Z) i = Z i := fun i hi => by simp [pd, List.getD_eq_getElem?_getD, hi]
    refine ⟨some a, len, cap, (List.range len).map Z, rfl, by simp, hl, hm, by simp, fun hz => ?_⟩
    simp only [DataW.weights, Tryz.underlying22, bytesProc, List.mem_cons, List.mem_append] at hz
    refine ⟨⟨?_, fun x hx' => ?_⟩, ?_⟩
    · by_cases h0 : len = 0
      · left; subst h0; rfl
      · right
        obtain ⟨b, off, h1, _⟩ := hZ 0 (by omega)
        have h1' : a = ⟨b, off, none⟩ := by simpa [Addr.add] using h1
        subst h1'
        refine ⟨b, off, rfl, fun j u hu => ?_⟩
        have := prcs_of (w := W) (b := b) (off := off) ((List.range len).map Z) 0 (fun i hi j u hu => by
          have hi' : i < len := by simpa using hi
          obtain ⟨b', off', h2, h3, _⟩ := hZ i hi'
          rw [Go.WideShapes.add_plain] at h2
          simp only [Addr.mk.injEq, and_true] at h2
          obtain ⟨rfl, rfl⟩ := h2
          rw [hpd i hi'] at hu
          rw [Nat.zero_add]
          exact h3 j u hu) j u hu
        simpa using this
    · obtain ⟨i, hi, rfl⟩ := List.mem_map.1 hx'
      have hi' : i < len := by simpa using hi
      obtain ⟨_, _, _, _, h4⟩ := hZ i hi'
      refine h4 (fun z hzz => hz z (.inr (.inl (weightsAll_mem (ds := (List.range len).map D) (List.mem_map.2 ⟨i, by simpa using hi', rfl⟩) z hzz))))
    · have := hz _ (.inl rfl)
      simp at this
      omega
theorem weights_at {H : Type} {ts : List TypeId} {ds : List (DataW H)} {j : Nat} {t : TypeId} {d : DataW H} (h : (DataW.weightsEach Tryz.prog ts ds).all (· ≤ reachBytes) = true) (ht : ts[j]? = some t) (hd : ds[j]? = some d) : ∀ z ∈ d.weights Tryz.prog t, z ≤ reachBytes := fun z hz => by
  have := List.all_eq_true.1 h _ (DataW.weights_mem_each ht hd z hz)
  simpa using this
end Go.Proofs.YtcaibgbhebldmaaGreat
/-
  BatchRuns: THE ROW.
-/
namespace Go.Proofs.YtcaibgbhebldmaaGreat.batchRuns
open Go.ChangeShapes Go.WideShapes Go.ChangeAt Go.RowKit

theorem own : ownKnob Tryz.prog.godebug = none := by kernel_rfl
theorem laidOut : laidOutB Tryz.prog = true := by kernel_rfl

set_option maxRecDepth 100000 in
theorem lifted (os : Os) (started : os.Started) (H : Type) (enc : TypeId × Value → H) :
    ReturnsInHanded {} Tryz.checked os 3 .any (Rows.batchRunsSpec.pre6 enc Tryz.prog Tryz.f3 Rows.batchRunsRow.domain false) (Rows.batchRunsSpec.post enc Tryz.prog Tryz.f3 false true false false) := by
  refine returnsInHanded_of_change_sized (C := Tryz.checked) own started (by kernel_rfl) Tryz.func3
    (ChangeSpec.witness6 (enc := enc) (C := Tryz.checked) false ⟨#[], #[.slice none 0 0, .slice none 0 0, .agg #[.bool false, .int .i64 0]], []⟩ 8 (by kernel_rfl) (by kernel_rfl) (by kernel_rfl) (by kernel_rfl)) ?_
  intro W base args ds gs before hval0 hW hcnd hsz0 _
  have hval : ∀ (j : Nat) t v, Tryz.f3.params[j]? = some t → args[j]? = some v → Value.okWide Tryz.prog W .any base t v := hval0
  have hW' := hW
  obtain ⟨p, q, hA0, hV, rfl, hfz, hnd⟩ := hW
  have hA : DataW.TrodAll enc Tryz.prog W 0 (fun _ => true) true Tryz.f3.params.toList args.toList ds p := hA0
  have hsz0 : (DataW.weightsEach Tryz.prog (Tryz.f3.params.toList ++ Rows.batchRunsSpec.plain.varTypes Tryz.prog) (ds ++ gs)).all (· ≤ reachBytes) = true := hsz0
  rw [Tryz.params3] at hA hval hsz0
  obtain ⟨v0, vs0, d0, ds0, p0, q0, hargs, rfl, rfl, h0, r0⟩ := trodAll_cons hA
  obtain ⟨v1, vs1, d1, ds1, p1, q1, rfl, rfl, rfl, h1, r1⟩ := trodAll_cons r0
  obtain ⟨v2, vs2, d2, ds2, p2, q2, rfl, rfl, rfl, h2, r2⟩ := trodAll_cons r1
  obtain ⟨rfl, rfl, rfl⟩ := trodAll_nil r2
  obtain rfl : args = #[v0, v1, v2] := by cases args; simp_all
  obtain ⟨rfl, rfl⟩ := trodVars_none hV
  obtain ⟨a_0, len_0, cap_0, rfl⟩ := okWide_slice Tryz.underlying22 (hval 0 22 v0 rfl rfl)
  have k0 := h0
  have lt0 : ∀ x ∈ p0, x.block < W.heap.size := by obtain ⟨m, hm⟩ := k0; exact DataW.trod_lt m _ _ _ hm
  obtain ⟨fuel0, hf0⟩ := h0
  obtain ⟨a0', len0', cap0', Ps_0, hcs0, hn_0, hlc_0, hcm_0, hnil_0, hx0⟩ := lib_of_trod hf0
  simp [Value.cells] at hcs0
  obtain ⟨rfl, rfl, rfl⟩ := hcs0
  obtain ⟨hl_0, hr_0⟩ := hx0 (weights_at hsz0 (j := 0) rfl rfl)
  have hrl_0 : len_0 ≤ 140737488351232 := by simp only [reachBytes] at hr_0; omega
  obtain ⟨a_1, len_1, cap_1, rfl⟩ := okWide_slice Tryz.underlying23 (hval 1 23 v1 rfl rfl)
  have k1 := h1
  have lt1 : ∀ x ∈ p1, x.block < W.heap.size := by obtain ⟨m, hm⟩ := k1; exact DataW.trod_lt m _ _ _ hm
  obtain ⟨fuel1, hf1⟩ := h1
  obtain ⟨a1', len1', cap1', zs_1, hcs1, hn_1, hb_1, hnil_1, hlc_1, hcm_1, hx1⟩ := bytes_of_trod hf1
  simp [Value.cells] at hcs1
  obtain ⟨rfl, rfl, rfl⟩ := hcs1
  have hr_1 := len_of_sized hsz0 (j := 1) rfl rfl hx1
  have k2 := h2
  have lt2 : ∀ x ∈ p2, x.block < W.heap.size := by obtain ⟨m, hm⟩ := k2; exact DataW.trod_lt m _ _ _ hm
  obtain ⟨c0, c1, y0, y1, m, rfl, rfl, rfl, hy0, hy1⟩ := Joins.open_agg2 Tryz.underlying25 (by kernel_rfl) (by kernel_rfl) (hval 2 25 v2 rfl rfl) h2
  obtain ⟨b_2, e0, _⟩ := DataW.trod_bool Tryz.underlying4 hy0
  obtain ⟨x_2, e1, _, wx1⟩ := DataW.trod_int Tryz.underlying2 hy1
  simp only [List.cons.injEq, and_true] at e0 e1
  subst e0 e1
  clear hy0 hy1 wx1
  clear hA0 hval0
  refine (Kk.lawBRuns W a_0 a_1 len_0 cap_0 len_1 cap_1 Ps_0 zs_1 b_2 x_2 hl_0 hn_0 hlc_0 hrl_0 hb_1 hn_1 hnil_1 hr_1).mono fun e W' ⟨he, bel⟩ => ?_
  subst he
  exact ⟨_, rfl, _, _, _, [], _, [], hW', trodAll_mk1 (shut_bool Tryz.underlying4 _), (trodAll_cons_mk (Below.trod laidOut (by kernel_rfl) (of_decide_eq_true (by kernel_rfl)) k0 bel lt0) (trodAll_cons_mk (Below.trod laidOut (by kernel_rfl) (of_decide_eq_true (by kernel_rfl)) k1 bel lt1) (trodAll_cons_mk (Below.trod laidOut (by kernel_rfl) (of_decide_eq_true (by kernel_rfl)) k2 bel lt2) trodAll_mk0))), rfl, bel.frame _, fun h => by cases h⟩

theorem proved : Rows.BatchRunsSaid :=
  OpenClaim.holds_of_wide 3 Tryz.f3 rfl rfl rfl rfl rfl rfl rfl ⟨rfl, rfl, rfl, rfl, rfl⟩ rfl rfl rfl rfl rfl (by kernel_rfl) Tryz.func3 (by kernel_rfl)
    (of_decide_eq_true (by kernel_rfl)) (by unfold Func.isWrapper; first | (rw [if_pos (by decide +kernel)]; kernel_rfl) | (rw [if_neg (by decide +kernel)]; exact ⟨rfl, rfl⟩))
    (fun os started H enc _ => lifted os started H enc)
end Go.Proofs.YtcaibgbhebldmaaGreat.batchRuns
namespace Go.Proofs.YtcaibgbhebldmaaGreat
theorem batchRuns_holds : Rows.BatchRunsSaid := batchRuns.proved
#print axioms batchRuns_holds
end Go.Proofs.YtcaibgbhebldmaaGreat
