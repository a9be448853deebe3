import Derived.Test.YtkmafpfldnapjaaGreatDoorKOpenCode
import Derived.Test.YtkmafpfldnapjaaGreatDoorKARead
/-
  FROM THE READING OF A []api.Proc ARGUMENT TO ITS PROCEDURES.
-/
namespace Go.Proofs.YtkmafpfldnapjaaGreatDoor
open Go.ChangeShapes Go.WideShapes Go.ChangeAt Go.RowKit

theorem cellsProc : Tryz.prog.cellsOf 87 = 6 := by kernel_rfl
theorem cellsStr : Tryz.prog.cellsOf 9 = 1 := by kernel_rfl
theorem bytesProc : Tryz.prog.bytesOf 87 = 72 := by kernel_rfl
/-- its parts are within reach -/
def SizedP {H : Type} (d : DataW H) : Prop := ∀ z ∈ d.weights Tryz.prog 87, z ≤ reachBytes
set_option maxRecDepth 100000 in
theorem proc_of_trod {H : Type} {enc : TypeId × Value → H} {W : World} {fuel : Nat} {a : Addr} {i : Nat} {cs : List Value} {y : DataW H × List MemPlace} (hc : W.cells? 0 (a.add (i * 6)) 6 = some cs)
    (hf : DataW.trod enc Tryz.prog W 0 (fun _ => true) true fuel 87 cs = some y) :
    ∃ (b off : Nat) (x : Pr), a.add (i * 6) = ⟨b, off, none⟩ ∧ (∀ j u, (prc x)[j]? = some u → W.cell? ⟨b, off + j, none⟩ = some u) ∧ (SizedP y.1 → PrOK W x) := by
  obtain ⟨_, hlen, hcell⟩ := World.cells?_some hc
  obtain ⟨xs, k, hk, rfl, _, hxl, hf⟩ := DataW.trod_struct Tryz.underlying87 hf
  match xs, hxl, cs, hlen with
  | [y0, y1], _, [v0, v1, v2, v3, v4, v5], _ =>
    have g0 := hf 0 _ rfl
    have g1 := hf 1 _ rfl
    simp [cellsStr, cellsProg] at g0 g1
    generalize a.add (i * 6) = ad at *
    obtain ⟨b, off, spot⟩ := ad
    have hspot : spot = none := by
      have e0 := hcell 0 (by omega)
      have h1 : (⟨b, off, spot⟩ : Addr).add 0 = ⟨b, off, spot⟩ := by simp [Addr.add]
      rw [h1] at e0
      exact World.cell?_spot e0
    subst hspot
    obtain ⟨s, hs0, hs1⟩ := DataW.trod_string Tryz.underlying9 g0
    obtain ⟨p, a1, len, cap, ks, hpv, hnin, ⟨hl, hks, hnil, hlc, hcm, hkin⟩, x0, x1, x2, x3, x4, hy1, hx4⟩ := prog_of_cells g1
    simp only [Value.agg.injEq, Array.mk.injEq, List.cons.injEq, and_true] at hpv
    obtain ⟨rfl, rfl, rfl, rfl, rfl⟩ := hpv
    simp only [List.cons.injEq, and_true] at hs0
    subst hs0
    obtain ⟨rfl, hs1⟩ := hs1
    refine ⟨b, off, ⟨s, p, a1, len, cap, ks⟩, rfl, fun j u hu => ?_, fun hz => ?_⟩
    · have hj : j < 6 := (List.getElem?_eq_some_iff.1 hu).1
      have := hcell j hj
      rw [Go.WideShapes.add_plain] at this
      rw [this]; exact hu
    · simp only [SizedP, List.map_cons, List.map_nil, DataW.weights, Tryz.underlying87, DataW.weightsEach, List.append_nil, List.mem_append] at hz
      have z1 := hz s.data.toList.length (.inl (by simp))
      refine ⟨hl, hks, hnin, fun k hk => hkin k hk, hnil, ?_, ?_⟩
      · have e1 : s.size = s.data.size := rfl
        have e2 : s.data.toList.length = s.data.size := Array.length_toList
        simp only [reachBytes] at z1
        show s.size ≤ _
        omega
      · show len * 16 ≤ _
        rcases hx4 with h0 | ⟨elems, spare, rfl, hle⟩
        · omega
        · have z2 := hz ((elems.length + spare.length) * 16) (.inr (by
            rw [hy1]
            simp only [DataW.weights, Tryz.underlying58]
            refine DataW.weights_mem_each (j := 4) (t := 56) (d := .slice elems spare) rfl rfl _ ?_
            simp [DataW.weights, Tryz.underlying56, bytesKey]))
          simp only [reachBytes] at z2
          omega
theorem weightsAll_mem {H : Type} {P : Program} {e : TypeId} : ∀ {ds : List (DataW H)} {d : DataW H}, d ∈ ds → ∀ z ∈ d.weights P e, z ∈ DataW.weightsAll P e ds
  | d0 :: ds, d, hd, z, hz => by
    simp only [DataW.weightsAll, List.mem_append]
    rcases List.mem_cons.1 hd with rfl | h
    · exact .inl hz
    · exact .inr (weightsAll_mem h z hz)
theorem prcs_of {w : World} {b off : Nat} : ∀ (Ps : List Pr) (d : Nat), (∀ i, i < Ps.length → ∀ j u, (prc (pd Ps i))[j]? = some u → w.cell? ⟨b, off + (d + i) * 6 + j, none⟩ = some u) → ∀ j u, (prcs Ps)[j]? = some u → w.cell? ⟨b, off + d * 6 + j, none⟩ = some u := by
  intro Ps d h j u hu
  have hj : j < Ps.length * 6 := by rw [← prcs_length]; exact (List.getElem?_eq_some_iff.1 hu).1
  obtain ⟨q, i, rfl, hi⟩ : ∃ q i, j = q * 6 + i ∧ i < 6 := ⟨j / 6, j % 6, by omega, Nat.mod_lt _ (by omega)⟩
  have hq : q < Ps.length := by omega
  rw [prcs_at Ps q i hq hi] at hu
  have := h q hq i u hu
  rw [show off + (d + q) * 6 + i = off + d * 6 + (q * 6 + i) by omega] at this
  exact this
set_option maxRecDepth 100000 in
/-- what the reading of a slice of procedures gives -/
theorem lib_of_trod {H : Type} {enc : TypeId × Value → H} {W : World} {fuel : Nat} {cs : List Value} {y : DataW H × List MemPlace}
    (hf : DataW.trod enc Tryz.prog W 0 (fun _ => true) true fuel 22 cs = some y) :
    ∃ (a : Option Addr) (len cap : Nat) (Ps : List Pr), cs = [.slice a len cap] ∧ len = Ps.length ∧ len ≤ cap ∧ cap ≤ maxLen ∧ (a = none → cap = 0) ∧
      ((∀ z ∈ y.1.weights Tryz.prog 22, z ≤ reachBytes) → LibAt W a Ps ∧ len * 72 ≤ reachBytes) := by
  rcases Deep.open_slice Tryz.underlying22 hf with ⟨rfl, rfl⟩ | ⟨a, len, cap, m, n, D, Pl, rfl, hb, hl, hm, hmm, rfl, hx⟩
  · exact ⟨none, 0, 0, [], rfl, rfl, Nat.le_refl _, Nat.zero_le _, fun _ => rfl, fun _ => ⟨⟨.inl rfl, fun x hx => by cases hx⟩, by simp⟩⟩
  · have hle : len ≤ m := by rw [hmm]; simpa using hl
    have hI : Inhabited Pr := ⟨prD⟩
    rw [cellsProc] at hx
    obtain ⟨Z, hZ⟩ := Deep.choose_lt (α := Pr) (n := len) (p := fun i x => ∃ b off, a.add (i * 6) = ⟨b, off, none⟩ ∧ (∀ j u, (prc x)[j]? = some u → W.cell? ⟨b, off + j, none⟩ = some u) ∧ (SizedP (D i) → PrOK W x)) (fun i hi => by
      obtain ⟨cs', h1, h2⟩ := hx i (by omega)
      obtain ⟨b, off, x, h3⟩ := proc_of_trod h1 h2
      exact ⟨x, b, off, h3⟩)
    have hpd : ∀ i, i < len → pd ((List.range len).map Z) i = Z i := fun i hi => by simp [pd, List.getD_eq_getElem?_getD, hi]
    refine ⟨some a, len, cap, (List.range len).map Z, rfl, by simp, hl, hm, by simp, fun hz => ?_⟩
    simp only [DataW.weights, Tryz.underlying22, bytesProc, List.mem_cons, List.mem_append] at hz
    refine ⟨⟨?_, fun x hx' => ?_⟩, ?_⟩
    · by_cases h0 : len = 0
      · left; subst h0; rfl
      · right
        obtain ⟨b, off, h1, _⟩ := hZ 0 (by omega)
        have h1' : a = ⟨b, off, none⟩ := by simpa [Addr.add] using h1
        subst h1'
        refine ⟨b, off, rfl, fun j u hu => ?_⟩
        have := prcs_of (w := W) (b := b) (off := off) ((List.range len).map Z) 0 (fun i hi j u hu => by
          have hi' : i < len := by simpa using hi
          obtain ⟨b', off', h2, h3, _⟩ := hZ i hi'
          rw [Go.WideShapes.add_plain] at h2
          simp only [Addr.mk.injEq, and_true] at h2
          obtain ⟨rfl, rfl⟩ := h2
          rw [hpd i hi'] at hu
          rw [Nat.zero_add]
          exact h3 j u hu) j u hu
        simpa using this
    · obtain ⟨i, hi, rfl⟩ := List.mem_map.1 hx'
      have hi' : i < len := by simpa using hi
      obtain ⟨_, _, _, _, h4⟩ := hZ i hi'
      refine h4 (fun z hzz => hz z (.inr (.inl (weightsAll_mem (ds := (List.range len).map D) (List.mem_map.2 ⟨i, by simpa using hi', rfl⟩) z hzz))))
    · have := hz _ (.inl rfl)
      simp at this
      omega
theorem weights_at {H : Type} {ts : List TypeId} {ds : List (DataW H)} {j : Nat} {t : TypeId} {d : DataW H} (h : (DataW.weightsEach Tryz.prog ts ds).all (· ≤ reachBytes) = true) (ht : ts[j]? = some t) (hd : ds[j]? = some d) : ∀ z ∈ d.weights Tryz.prog t, z ≤ reachBytes := fun z hz => by
  have := List.all_eq_true.1 h _ (DataW.weights_mem_each ht hd z hz)
  simpa using this
end Go.Proofs.YtkmafpfldnapjaaGreatDoor
