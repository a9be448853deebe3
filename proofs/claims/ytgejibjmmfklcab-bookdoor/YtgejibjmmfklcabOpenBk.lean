/-
  FROM THE READING OF A []preludelaw10.Op ARGUMENT TO ITS CALLS.
-/
import Derived.Test.YtgejibjmmfklcabBkParts
import Derived.Test.YtgejibjmmfklcabOpenKeys
namespace Go.Proofs.Ytgejibjmmfklcab
open Go.ChangeShapes Go.WideShapes Go.ChangeAt Go.RowKit

theorem cellsSKb : Try.prog.cellsOf 60 = 1 := by kernel_rfl
theorem cellsSSKb : Try.prog.cellsOf 36 = 1 := by kernel_rfl
theorem bytesSKb : Try.prog.bytesOf 60 = 24 := by kernel_rfl
theorem cellsOpb : Try.prog.cellsOf 40 = 5 := by kernel_rfl
theorem bytesOpb : Try.prog.bytesOf 40 = 56 := by kernel_rfl
theorem cell_ltb {W : World} {b o : Nat} {v : Value} (h : W.cell? ⟨b, o, none⟩ = some v) : b < W.heap.size := by
  by_cases hb : b < W.heap.size
  · exact hb
  · have : W.heap[b]? = none := by simp; omega
    simp [World.cell?, this] at h
theorem wAll_mem {H : Type} {P : Program} {e : TypeId} : ∀ {ds : List (DataW H)} {d : DataW H}, d ∈ ds → ∀ z ∈ d.weights P e, z ∈ DataW.weightsAll P e ds
  | d0 :: ds, d, hd, z, hz => by
    simp only [DataW.weightsAll, List.mem_append]
    rcases List.mem_cons.1 hd with rfl | h
    · exact .inl hz
    · exact .inr (wAll_mem h z hz)
set_option maxRecDepth 100000 in
theorem lists_of_trod {H : Type} {enc : TypeId × Value → H} {W : World} {fuel : Nat} {cs : List Value} {y : DataW H × List MemPlace}
    (hf : DataW.trod enc Try.prog W 0 (fun _ => true) true fuel 36 cs = some y) :
    ∃ (a : Option Addr) (len cap : Nat) (L : List (List K)), cs = [.slice a len cap] ∧ len = L.length ∧ (∀ s ∈ L, ∀ k ∈ s, KIn k) ∧ RWs (fun k => W.heap.size ≤ k) W a L ∧
      ((∀ z ∈ y.1.weights Try.prog 36, z ≤ reachBytes) → len * 24 ≤ reachBytes ∧ ∀ s ∈ L, s.length * 16 ≤ reachBytes) := by
  rcases Deep.open_slice Try.underlying36 hf with ⟨rfl, rfl⟩ | ⟨a, len, cap, m, n, D, Pl, rfl, hb, hl, hm, hmm, rfl, hx⟩
  · exact ⟨none, 0, 0, [], rfl, rfl, by simp, fun i hi => by simp at hi, fun _ => ⟨by simp, by simp⟩⟩
  · have hle : len ≤ m := by rw [hmm]; simpa using hl
    rw [cellsSKb] at hx
    obtain ⟨Z, hZ⟩ := Deep.choose_lt (α := List K × Option Addr × Nat) (n := len) (p := fun i x => ∃ b off, a.add (i * 1) = ⟨b, off, none⟩ ∧ W.cell? ⟨b, off, none⟩ = some (.slice x.2.1 x.1.length x.2.2) ∧ KeysAt W x.2.1 x.1 ∧ (∀ k ∈ x.1, KIn k) ∧ ((∀ z ∈ (D i).weights Try.prog 60, z ≤ reachBytes) → x.1.length * 16 ≤ reachBytes)) (fun i hi => by
      obtain ⟨cs', h1, h2⟩ := hx i (by omega)
      obtain ⟨_, hlen, hcell⟩ := World.cells?_some h1
      obtain ⟨sa, sn, sc, ks, rfl, ⟨rfl, hat, _, _, _, hin⟩, hz⟩ := keys_of_trod h2
      have e0 := hcell 0 (by simp)
      generalize a.add (i * 1) = ad at *
      obtain ⟨b, off, spot⟩ := ad
      have hspot : spot = none := by
        have h1 : (⟨b, off, spot⟩ : Addr).add 0 = ⟨b, off, spot⟩ := by simp [Addr.add]
        rw [h1] at e0
        exact World.cell?_spot e0
      subst hspot
      rw [Go.WideShapes.add_plain] at e0
      refine ⟨(ks, sa, sc), b, off, rfl, by simpa using e0, hat, fun k hk => hin k hk, fun hw => ?_⟩
      rcases hz with h0 | ⟨elems, spare, e, hle⟩
      · show ks.length * 16 ≤ _
        rw [h0]
        simp
      · have z2 := hw ((elems.length + spare.length) * 16) (by
          have e' : D i = .slice elems spare := e
          rw [e']
          simp [DataW.weights, Try.underlying60, bytesKey])
        show ks.length * 16 ≤ _
        omega)
    have hget : ∀ i (hi : i < ((List.range len).map fun i => (Z i).1).length), i < len ∧ ((List.range len).map fun i => (Z i).1)[i] = (Z i).1 := fun i hi => ⟨by simpa using hi, by simp⟩
    refine ⟨some a, len, cap, (List.range len).map (fun i => (Z i).1), rfl, by simp, fun s hs => ?_, fun i hi => ?_, fun hz => ⟨?_, fun s hs => ?_⟩⟩
    · obtain ⟨i, hi, rfl⟩ := List.mem_map.1 hs
      obtain ⟨_, _, _, _, _, h5, _⟩ := hZ i (by simpa using hi)
      exact h5
    · obtain ⟨hi', e⟩ := hget i hi
      rw [e]
      obtain ⟨b, off, h1, _⟩ := hZ 0 (by omega)
      have h1' : a = ⟨b, off, none⟩ := by simpa [Addr.add] using h1
      subst h1'
      obtain ⟨b', off', h2, h3, h4, _⟩ := hZ i hi'
      rw [Go.WideShapes.add_plain, Nat.mul_one] at h2
      simp only [Addr.mk.injEq, and_true] at h2
      obtain ⟨rfl, rfl⟩ := h2
      have hlt := cell_ltb h3
      refine ⟨b, off, (Z i).2.1, (Z i).2.2, rfl, by omega, hlt, h3, h4, fun ad hne hsa => ?_⟩
      rcases h4 with h0 | ⟨kb, ko, e2, hc⟩
      · exact absurd h0 hne
      · rw [hsa] at e2
        cases e2
        obtain ⟨k, l, hkl⟩ : ∃ k l, (Z i).1 = k :: l := by
          cases hz : (Z i).1 with
          | nil => exact absurd hz hne
          | cons k l => exact ⟨k, l, rfl⟩
        have := hc 0 (.int .i64 k.1) (by rw [hkl]; simp [cks])
        have := cell_ltb this
        exact ⟨by show ¬ W.heap.size ≤ kb; omega, this⟩
    · simp only [DataW.weights, Try.underlying36, bytesSKb, List.mem_cons, List.mem_append] at hz
      have := hz _ (.inl rfl)
      simp at this
      omega
    · obtain ⟨i, hi, rfl⟩ := List.mem_map.1 hs
      have hi' : i < len := by simpa using hi
      obtain ⟨_, _, _, _, _, _, h6⟩ := hZ i hi'
      simp only [DataW.weights, Try.underlying36, bytesSKb, List.mem_cons, List.mem_append] at hz
      exact h6 (fun z hzz => hz z (.inr (.inl (wAll_mem (ds := (List.range len).map D) (List.mem_map.2 ⟨i, by simpa using hi', rfl⟩) z hzz))))
def SizedO {H : Type} (d : DataW H) : Prop := ∀ z ∈ d.weights Try.prog 40, z ≤ reachBytes
def OcB (o : Oc) : Prop := o.L.length * 24 ≤ reachBytes ∧ ∀ s ∈ o.L, s.length * 16 ≤ reachBytes
def OcI (o : Oc) : Prop := (∀ s ∈ o.L, ∀ k ∈ s, KIn k) ∧ In64 o.m ∧ In64 o.kind ∧ KIn o.k
set_option maxRecDepth 100000 in
theorem op_of_trod {H : Type} {enc : TypeId × Value → H} {W : World} {fuel : Nat} {a : Addr} {i : Nat} {cs : List Value} {y : DataW H × List MemPlace} (hc : W.cells? 0 (a.add (i * 5)) 5 = some cs)
    (hf : DataW.trod enc Try.prog W 0 (fun _ => true) true fuel 40 cs = some y) :
    ∃ (b off : Nat) (o : Oc), a.add (i * 5) = ⟨b, off, none⟩ ∧ (W.cell? ⟨b, off, none⟩ = some (.int .i64 o.kind) ∧ W.cell? ⟨b, off + 1, none⟩ = some (.slice o.a o.L.length o.c) ∧ W.cell? ⟨b, off + 2, none⟩ = some (.int .i64 o.m) ∧ W.cell? ⟨b, off + 3, none⟩ = some (.int .i64 o.k.1) ∧ W.cell? ⟨b, off + 4, none⟩ = some (.int .i64 o.k.2)) ∧
      RWs (fun k => W.heap.size ≤ k) W o.a o.L ∧ OcI o ∧ (SizedO y.1 → OcB o) := by
  obtain ⟨_, hlen, hcell⟩ := World.cells?_some hc
  obtain ⟨xs, k, hk, rfl, _, hxl, hf⟩ := DataW.trod_struct Try.underlying40 hf
  match xs, hxl, cs, hlen with
  | [y0, y1, y2, y3], _, [v0, v1, v2, v3, v4], _ =>
    have g0 := hf 0 _ rfl
    have g1 := hf 1 _ rfl
    have g2 := hf 2 _ rfl
    have g3 := hf 3 _ rfl
    simp [cellsInt', cellsSSKb, cellsKey] at g0 g1 g2 g3
    generalize a.add (i * 5) = ad at *
    obtain ⟨b, off, spot⟩ := ad
    have hspot : spot = none := by
      have e0 := hcell 0 (by omega)
      have h1 : (⟨b, off, spot⟩ : Addr).add 0 = ⟨b, off, spot⟩ := by simp [Addr.add]
      rw [h1] at e0
      exact World.cell?_spot e0
    subst hspot
    obtain ⟨x0, h0, _, wx0⟩ := DataW.trod_int Try.underlying3 g0
    obtain ⟨wa, wn, wc, L, hW, hl, hin, hrw, hz⟩ := lists_of_trod g1
    obtain ⟨x2, h2, _, wx2⟩ := DataW.trod_int Try.underlying3 g2
    obtain ⟨zs, k', hk', _, _, hzl, hf3⟩ := DataW.trod_struct Try.underlying38 g3
    match zs, hzl with
    | [z0, z1], _ =>
      have f0 := hf3 0 _ rfl
      have f1 := hf3 1 _ rfl
      simp [cellsInt', cellsInt64'] at f0 f1
      obtain ⟨x3, h3, _, wx3⟩ := DataW.trod_int Try.underlying3 f0
      obtain ⟨x4, h4, _, wx4⟩ := DataW.trod_int Try.underlying2 f1
      simp only [List.cons.injEq, and_true] at h0 hW h2 h3 h4
      subst h0 hW h2 h3 h4 hl
      have e : ∀ j u, ([.int .i64 x0, .slice wa L.length wc, .int .i64 x2, .int .i64 x3, .int .i64 x4] : List Value)[j]? = some u → W.cell? ⟨b, off + j, none⟩ = some u := fun j u hu => by
        have hj : j < 5 := (List.getElem?_eq_some_iff.1 hu).1
        have := hcell j hj
        rw [Go.WideShapes.add_plain] at this
        rw [this]
        exact hu
      refine ⟨b, off, ⟨x0, wa, wc, L, x2, (x3, x4)⟩, rfl, ⟨e 0 _ rfl, e 1 _ rfl, e 2 _ rfl, e 3 _ rfl, e 4 _ rfl⟩, hrw, ⟨hin, bounds_i64 wx2, bounds_i64 wx0, bounds_i64 wx3, bounds_i64 wx4⟩, fun hs => ?_⟩
      refine hz (fun z hzz => hs z ?_)
      simp only [DataW.weights, Try.underlying40]
      exact DataW.weights_mem_each (j := 1) (t := 36) (d := y1.1) rfl rfl _ hzz
set_option maxRecDepth 100000 in
/-- what the reading of a script gives -/
theorem ops_of_trod {H : Type} {enc : TypeId × Value → H} {W : World} {fuel : Nat} {cs : List Value} {y : DataW H × List MemPlace}
    (hf : DataW.trod enc Try.prog W 0 (fun _ => true) true fuel 22 cs = some y) :
    ∃ (a : Option Addr) (len cap : Nat) (os : List Oc), cs = [.slice a len cap] ∧ len = os.length ∧ (∀ o ∈ os, OcI o) ∧
      ((∀ z ∈ y.1.weights Try.prog 22, z ≤ reachBytes) → OpsAt (fun k => W.heap.size ≤ k) W a os ∧ len * 56 ≤ reachBytes) := by
  rcases Deep.open_slice Try.underlying22 hf with ⟨rfl, rfl⟩ | ⟨a, len, cap, m, n, D, Pl, rfl, hb, hl, hm, hmm, rfl, hx⟩
  · exact ⟨none, 0, 0, [], rfl, rfl, by simp, fun _ => ⟨fun i hi => by simp at hi, by simp⟩⟩
  · have hle : len ≤ m := by rw [hmm]; simpa using hl
    have hI : Inhabited Oc := ⟨⟨0, none, 0, [], 0, (0, 0)⟩⟩
    rw [cellsOpb] at hx
    obtain ⟨Z, hZ⟩ := Deep.choose_lt (α := Oc) (n := len) (p := fun i o => ∃ b off, a.add (i * 5) = ⟨b, off, none⟩ ∧ (W.cell? ⟨b, off, none⟩ = some (.int .i64 o.kind) ∧ W.cell? ⟨b, off + 1, none⟩ = some (.slice o.a o.L.length o.c) ∧ W.cell? ⟨b, off + 2, none⟩ = some (.int .i64 o.m) ∧ W.cell? ⟨b, off + 3, none⟩ = some (.int .i64 o.k.1) ∧ W.cell? ⟨b, off + 4, none⟩ = some (.int .i64 o.k.2)) ∧ RWs (fun k => W.heap.size ≤ k) W o.a o.L ∧ OcI o ∧ (SizedO (D i) → OcB o)) (fun i hi => by
      obtain ⟨cs', h1, h2⟩ := hx i (by omega)
      obtain ⟨b, off, o, h3⟩ := op_of_trod h1 h2
      exact ⟨o, b, off, h3⟩)
    refine ⟨some a, len, cap, (List.range len).map Z, rfl, by simp, fun o ho => ?_, fun hz => ?_⟩
    · obtain ⟨i, hi, rfl⟩ := List.mem_map.1 ho
      obtain ⟨_, _, _, _, _, h5, _⟩ := hZ i (by simpa using hi)
      exact h5
    · simp only [DataW.weights, Try.underlying22, bytesOpb, List.mem_cons, List.mem_append] at hz
      refine ⟨fun i hi => ?_, ?_⟩
      · have hi' : i < len := by simpa using hi
        obtain ⟨b, off, h1, _⟩ := hZ 0 (by omega)
        have h1' : a = ⟨b, off, none⟩ := by simpa [Addr.add] using h1
        subst h1'
        obtain ⟨b', off', h2, ⟨d0, d1, d2, d3, d4⟩, h4, _, h6⟩ := hZ i hi'
        rw [Go.WideShapes.add_plain] at h2
        simp only [Addr.mk.injEq, and_true] at h2
        obtain ⟨rfl, rfl⟩ := h2
        have hB := h6 (fun z hzz => hz z (.inr (.inl (wAll_mem (ds := (List.range len).map D) (List.mem_map.2 ⟨i, by simpa using hi', rfl⟩) z hzz))))
        have e : ((List.range len).map Z)[i] = Z i := by simp
        rw [e]
        have hlt := cell_ltb d0
        unfold OcB at hB
        simp only [reachBytes] at hB
        exact ⟨b, off, rfl, by omega, hlt, d0, d1, d2, d3, d4, h4, by omega, fun s hs => by have := hB.2 s hs; omega⟩
      · have := hz _ (.inl rfl)
        simp at this
        omega
end Go.Proofs.Ytgejibjmmfklcab
