import Derived.Test.YtonefdbfodjadabQKList
import Derived.SizedLaws
import Derived.Lib.SmallJoins
import Derived.Deep.Slices
import Derived.Test.YtonefdbfodjadabTxMem
/-
  FROM THE READING OF A []api.Key ARGUMENT (OR FIELD) TO ITS KEYS.
-/
namespace Go.Proofs.Ytonefdbfodjadab.Kk
open Go.ChangeShapes Go.WideShapes Go.ChangeAt Go.RowKit

theorem cellsKey : Try.prog.cellsOf 78 = 2 := by kernel_rfl
theorem cellsInt' : Try.prog.cellsOf 3 = 1 := by kernel_rfl
theorem cellsInt64' : Try.prog.cellsOf 2 = 1 := by kernel_rfl
theorem bytesKey : Try.prog.bytesOf 78 = 16 := by kernel_rfl
set_option maxRecDepth 100000 in
/-- one element -/
theorem key_of_trod {H : Type} {enc : TypeId × Value → H} {W : World} {fuel : Nat} {a : Addr} {i : Nat} {cs : List Value} {y : DataW H × List MemPlace} (hc : W.cells? 0 (a.add (i * 2)) 2 = some cs)
    (hf : DataW.trod enc Try.prog W 0 (fun _ => true) true fuel 78 cs = some y) :
    ∃ (b off : Nat) (k : K), a.add (i * 2) = ⟨b, off, none⟩ ∧ W.cell? ⟨b, off, none⟩ = some (.int .i64 k.1) ∧ W.cell? ⟨b, off + 1, none⟩ = some (.int .i64 k.2) ∧ In64 k.1 ∧ In64 k.2 := by
  obtain ⟨_, hlen, hcell⟩ := World.cells?_some hc
  obtain ⟨xs, k, hk, hxy, _, hxl, hf⟩ := DataW.trod_struct Try.underlying78 hf
  match xs, hxl, cs, hlen with
  | [y0, y1], _, [v0, v1], _ =>
    have g0 := hf 0 _ rfl
    have g1 := hf 1 _ rfl
    simp [cellsInt', cellsInt64'] at g0 g1
    have e0 := hcell 0 (by omega)
    have e1 := hcell 1 (by omega)
    generalize a.add (i * 2) = ad at *
    obtain ⟨b, off, spot⟩ := ad
    have hspot : spot = none := by
      have h1 : (⟨b, off, spot⟩ : Addr).add 0 = ⟨b, off, spot⟩ := by simp [Addr.add]
      rw [h1] at e0
      exact World.cell?_spot e0
    subst hspot
    rw [Go.WideShapes.add_plain] at e0 e1
    obtain ⟨x0, h0, _, wx0⟩ := DataW.trod_int Try.underlying3 g0
    obtain ⟨x1, h1, _, wx1⟩ := DataW.trod_int Try.underlying2 g1
    simp only [List.cons.injEq, and_true] at h0 h1
    subst h0 h1
    exact ⟨b, off, (x0, x1), rfl, by simpa using e0, by simpa using e1, bounds_i64 wx0, bounds_i64 wx1⟩
theorem cks_of {w : World} {b off : Nat} : ∀ (L : List K) (d : Nat), (∀ i, i < L.length → w.cell? ⟨b, off + (d + i) * 2, none⟩ = some (.int .i64 (kd L i).1) ∧ w.cell? ⟨b, off + (d + i) * 2 + 1, none⟩ = some (.int .i64 (kd L i).2)) →
    ∀ j u, (cks L)[j]? = some u → w.cell? ⟨b, off + d * 2 + j, none⟩ = some u
  | [], _, _, j, u, hu => by simp [cks] at hu
  | k :: L, d, h, 0, u, hu => by
    have := (h 0 (by simp)).1
    simp [cks] at hu
    simpa [kd, hu] using this
  | k :: L, d, h, 1, u, hu => by
    have := (h 0 (by simp)).2
    simp [cks] at hu
    simpa [kd, hu] using this
  | k :: L, d, h, j + 2, u, hu => by
    have ih := cks_of (w := w) (b := b) (off := off) L (d + 1) (fun i hi => by
      have := h (i + 1) (by simp; omega)
      rw [kd_cons_succ, show d + (i + 1) = d + 1 + i by omega] at this
      exact this) j u (by simpa [cks] using hu)
    rw [show off + (d + 1) * 2 + j = off + d * 2 + (j + 2) by omega] at ih
    exact ih
set_option maxRecDepth 100000 in
/-- what the reading of a slice of keys gives -/
theorem keys_of_trod {H : Type} {enc : TypeId × Value → H} {W : World} {fuel : Nat} {cs : List Value} {y : DataW H × List MemPlace}
    (hf : DataW.trod enc Try.prog W 0 (fun _ => true) true fuel 40 cs = some y) :
    ∃ (a : Option Addr) (len cap : Nat) (ks : List K), cs = [.slice a len cap] ∧ (len = ks.length ∧ KeysAt W a ks ∧ (a = none → cap = 0) ∧ len ≤ cap ∧ cap ≤ maxLen ∧ ∀ k ∈ ks, In64 k.1 ∧ In64 k.2) ∧
      (len = 0 ∨ ∃ elems spare, y.1 = .slice elems spare ∧ len ≤ elems.length + spare.length) := by
  rcases Deep.open_slice Try.underlying40 hf with ⟨rfl, rfl⟩ | ⟨a, len, cap, m, n, D, Pl, rfl, hb, hl, hm, hmm, rfl, hx⟩
  · exact ⟨none, 0, 0, [], rfl, ⟨rfl, .inl rfl, fun _ => rfl, Nat.le_refl _, Nat.zero_le _, by simp⟩, .inl rfl⟩
  · have hle : len ≤ m := by rw [hmm]; simpa using hl
    rw [cellsKey] at hx
    obtain ⟨Z, hZ⟩ := Deep.choose_lt (α := K) (n := len) (p := fun i k => ∃ b off, a.add (i * 2) = ⟨b, off, none⟩ ∧ W.cell? ⟨b, off, none⟩ = some (.int .i64 k.1) ∧ W.cell? ⟨b, off + 1, none⟩ = some (.int .i64 k.2) ∧ In64 k.1 ∧ In64 k.2) (fun i hi => by
      obtain ⟨cs', h1, h2⟩ := hx i (by omega)
      obtain ⟨b, off, k, h3⟩ := key_of_trod h1 h2
      exact ⟨k, b, off, h3⟩)
    refine ⟨some a, len, cap, (List.range len).map Z, rfl, ⟨by simp, ?_, by simp, by simpa using hl, hm, ?_⟩, .inr ⟨_, _, rfl, ?_⟩⟩
    · by_cases h0 : len = 0
      · left; subst h0; rfl
      · right
        obtain ⟨b, off, h1, _⟩ := hZ 0 (by omega)
        have h1' : a = ⟨b, off, none⟩ := by simpa [Addr.add] using h1
        subst h1'
        refine ⟨b, off, rfl, fun j u hu => ?_⟩
        have := cks_of (w := W) (b := b) (off := off) ((List.range len).map Z) 0 (fun i hi => by
          have hi' : i < len := by simpa using hi
          obtain ⟨b', off', h2, h3, h4, _⟩ := hZ i hi'
          rw [Go.WideShapes.add_plain] at h2
          simp only [Addr.mk.injEq, and_true] at h2
          obtain ⟨rfl, rfl⟩ := h2
          have e : kd ((List.range len).map Z) i = Z i := by simp [kd, List.getD_eq_getElem?_getD, hi']
          rw [e, Nat.zero_add]
          exact ⟨h3, h4⟩) j u hu
        simpa using this
    · intro k hk
      obtain ⟨i, hi, rfl⟩ := List.mem_map.1 hk
      obtain ⟨_, _, _, _, _, h5⟩ := hZ i (by simpa using hi)
      exact h5
    · simp
theorem keys_of_sized {H : Type} {ts : List TypeId} {ds : List (DataW H)} {j len : Nat} {d : DataW H} (h : (DataW.weightsEach Try.prog ts ds).all (· ≤ reachBytes) = true) (ht : ts[j]? = some 40) (hd : ds[j]? = some d)
    (hx : len = 0 ∨ ∃ elems spare, d = .slice elems spare ∧ len ≤ elems.length + spare.length) : len * 16 ≤ 140737488351232 := by
  rcases hx with h0 | ⟨elems, spare, rfl, hl⟩
  · omega
  · have h1 := sized_slice h ht hd Try.underlying40
    rw [bytesKey] at h1
    simp only [reachBytes] at h1
    omega

end Go.Proofs.Ytonefdbfodjadab.Kk
/-
  FROM THE READING OF A []api.Tx ARGUMENT TO ITS TRANSACTIONS.
-/
namespace Go.Proofs.Ytonefdbfodjadab.Kk
open Go.ChangeShapes Go.WideShapes Go.ChangeAt Go.RowKit

theorem cells64 : Try.prog.cellsOf 2 = 1 := by kernel_rfl
theorem cellsTx : Try.prog.cellsOf 42 = 4 := by kernel_rfl
theorem cellsS64 : Try.prog.cellsOf 39 = 1 := by kernel_rfl
theorem cellsSK : Try.prog.cellsOf 40 = 1 := by kernel_rfl
theorem bytes64 : Try.prog.bytesOf 2 = 8 := by kernel_rfl
theorem bytesTx : Try.prog.bytesOf 42 = 80 := by kernel_rfl
set_option maxRecDepth 100000 in
theorem nums_of_trod {H : Type} {enc : TypeId × Value → H} {W : World} {fuel : Nat} {cs : List Value} {y : DataW H × List MemPlace}
    (hf : DataW.trod enc Try.prog W 0 (fun _ => true) true fuel 39 cs = some y) :
    ∃ (a : Option Addr) (len cap : Nat) (S : List Int), cs = [.slice a len cap] ∧ (len = S.length ∧ NumsAt W a S ∧ (a = none → cap = 0) ∧ len ≤ cap ∧ (∀ x ∈ S, In64 x)) ∧
      (len = 0 ∨ ∃ elems spare, y.1 = .slice elems spare ∧ len ≤ elems.length + spare.length) := by
  rcases Deep.open_slice Try.underlying39 hf with ⟨rfl, rfl⟩ | ⟨a, len, cap, m, n, D, Pl, rfl, hb, hl, hm, hmm, rfl, hx⟩
  · exact ⟨none, 0, 0, [], rfl, ⟨rfl, .inl rfl, fun _ => rfl, Nat.le_refl _, by simp⟩, .inl rfl⟩
  · have hle : len ≤ m := by rw [hmm]; simpa using hl
    rw [cells64] at hx
    obtain ⟨Z, hZ⟩ := Deep.choose_lt (α := Int) (n := len) (p := fun i k => ∃ b off, a.add (i * 1) = ⟨b, off, none⟩ ∧ W.cell? ⟨b, off, none⟩ = some (.int .i64 k) ∧ In64 k) (fun i hi => by
      obtain ⟨cs', h1, h2⟩ := hx i (by omega)
      obtain ⟨_, hlen, hcell⟩ := World.cells?_some h1
      obtain ⟨x, e, _, wx⟩ := DataW.trod_int Try.underlying2 h2
      subst e
      have e0 := hcell 0 (by omega)
      generalize a.add (i * 1) = ad at *
      obtain ⟨b, off, spot⟩ := ad
      have hspot : spot = none := by
        have h1 : (⟨b, off, spot⟩ : Addr).add 0 = ⟨b, off, spot⟩ := by simp [Addr.add]
        rw [h1] at e0
        exact World.cell?_spot e0
      subst hspot
      rw [Go.WideShapes.add_plain] at e0
      exact ⟨x, b, off, rfl, by simpa using e0, bounds_i64 wx⟩)
    refine ⟨some a, len, cap, (List.range len).map Z, rfl, ⟨by simp, ?_, by simp, by simpa using hl, ?_⟩, .inr ⟨_, _, rfl, by simp⟩⟩
    · by_cases h0 : len = 0
      · left; subst h0; rfl
      · right
        obtain ⟨b, off, h1, _⟩ := hZ 0 (by omega)
        have h1' : a = ⟨b, off, none⟩ := by simpa [Addr.add] using h1
        subst h1'
        refine ⟨b, off, rfl, fun j u hu => ?_⟩
        have hj : j < len := by have := (List.getElem?_eq_some_iff.1 hu).1; simpa using this
        obtain ⟨b', off', h2, h3, _⟩ := hZ j hj
        rw [Go.WideShapes.add_plain, Nat.mul_one] at h2
        simp only [Addr.mk.injEq, and_true] at h2
        obtain ⟨rfl, rfl⟩ := h2
        simp [hj] at hu
        rw [h3, ← hu]
    · intro x hx
      obtain ⟨i, hi, rfl⟩ := List.mem_map.1 hx
      obtain ⟨_, _, _, _, h5⟩ := hZ i (by simpa using hi)
      exact h5
/-- its parts are within reach -/
def SizedT {H : Type} (d : DataW H) : Prop := ∀ z ∈ d.weights Try.prog 42, z ≤ reachBytes
set_option maxRecDepth 100000 in
theorem tx_of_trod {H : Type} {enc : TypeId × Value → H} {W : World} {fuel : Nat} {a : Addr} {i : Nat} {cs : List Value} {y : DataW H × List MemPlace} (hc : W.cells? 0 (a.add (i * 4)) 4 = some cs)
    (hf : DataW.trod enc Try.prog W 0 (fun _ => true) true fuel 42 cs = some y) :
    ∃ (b off : Nat) (x : Bx), a.add (i * 4) = ⟨b, off, none⟩ ∧ (∀ j u, (bxc x)[j]? = some u → W.cell? ⟨b, off + j, none⟩ = some u) ∧ (SizedT y.1 → BxOK W x) := by
  obtain ⟨_, hlen, hcell⟩ := World.cells?_some hc
  obtain ⟨xs, k, hk, rfl, _, hxl, hf⟩ := DataW.trod_struct Try.underlying42 hf
  match xs, hxl, cs, hlen with
  | [y0, y1, y2, y3], _, [v0, v1, v2, v3], _ =>
    have g0 := hf 0 _ rfl
    have g1 := hf 1 _ rfl
    have g2 := hf 2 _ rfl
    have g3 := hf 3 _ rfl
    simp [cellsInt', cellsS64, cellsSK] at g0 g1 g2 g3
    generalize a.add (i * 4) = ad at *
    obtain ⟨b, off, spot⟩ := ad
    have hspot : spot = none := by
      have e0 := hcell 0 (by omega)
      have h1 : (⟨b, off, spot⟩ : Addr).add 0 = ⟨b, off, spot⟩ := by simp [Addr.add]
      rw [h1] at e0
      exact World.cell?_spot e0
    subst hspot
    obtain ⟨x0, h0, _, wx0⟩ := DataW.trod_int Try.underlying3 g0
    obtain ⟨aA, nA, cA, A, hA, ⟨lA, atA, nilA, capA, inA⟩, zA⟩ := nums_of_trod g1
    obtain ⟨aR, nR, cR, R, hR, ⟨lR, atR, nilR, capR, _, inR⟩, zR⟩ := keys_of_trod g2
    obtain ⟨aW, nW, cW, V, hV, ⟨lW, atW, nilW, capW, _, inW⟩, zW⟩ := keys_of_trod g3
    simp only [List.cons.injEq, and_true] at h0 hA hR hV
    subst h0 hA hR hV lA lR lW
    refine ⟨b, off, ⟨⟨x0, A, R, V⟩, aA, cA, aR, cR, aW, cW⟩, rfl, fun j u hu => ?_, fun hz => ?_⟩
    · have hj : j < 4 := (List.getElem?_eq_some_iff.1 hu).1
      have := hcell j hj
      rw [Go.WideShapes.add_plain] at this
      rw [this]; exact hu
    · simp only [SizedT, List.map_cons, List.map_nil, DataW.weights, Try.underlying42] at hz
      have bA : A.length * 8 ≤ reachBytes := by
        rcases zA with h0 | ⟨elems, spare, e, hle⟩
        · omega
        · have z2 := hz ((elems.length + spare.length) * 8) (by
            refine DataW.weights_mem_each (j := 1) (t := 39) (d := .slice elems spare) rfl (by rw [← e]; rfl) _ ?_
            simp [DataW.weights, Try.underlying39, bytes64])
          omega
      have bR : R.length * 16 ≤ reachBytes := by
        rcases zR with h0 | ⟨elems, spare, e, hle⟩
        · omega
        · have z2 := hz ((elems.length + spare.length) * 16) (by
            refine DataW.weights_mem_each (j := 2) (t := 40) (d := .slice elems spare) rfl (by rw [← e]; rfl) _ ?_
            simp [DataW.weights, Try.underlying40, bytesKey])
          omega
      have bW : V.length * 16 ≤ reachBytes := by
        rcases zW with h0 | ⟨elems, spare, e, hle⟩
        · omega
        · have z2 := hz ((elems.length + spare.length) * 16) (by
            refine DataW.weights_mem_each (j := 3) (t := 40) (d := .slice elems spare) rfl (by rw [← e]; rfl) _ ?_
            simp [DataW.weights, Try.underlying40, bytesKey])
          omega
      simp only [reachBytes] at bA bR bW
      exact ⟨atA, atR, atW, bounds_i64 wx0, inA, fun k hk => inR k hk, fun k hk => inW k hk, nilA, nilR, nilW, capA, capR, capW, by show A.length * 8 ≤ _; omega, by show R.length * 16 ≤ _; omega, by show V.length * 16 ≤ _; omega⟩
theorem weightsAll_mem {H : Type} {P : Program} {e : TypeId} : ∀ {ds : List (DataW H)} {d : DataW H}, d ∈ ds → ∀ z ∈ d.weights P e, z ∈ DataW.weightsAll P e ds
  | d0 :: ds, d, hd, z, hz => by
    simp only [DataW.weightsAll, List.mem_append]
    rcases List.mem_cons.1 hd with rfl | h
    · exact .inl hz
    · exact .inr (weightsAll_mem h z hz)
theorem bxcs_of {w : World} {b off : Nat} : ∀ (Ps : List Bx), (∀ i, i < Ps.length → ∀ j u, (bxc (bd Ps i))[j]? = some u → w.cell? ⟨b, off + i * 4 + j, none⟩ = some u) → ∀ j u, (bxcs Ps)[j]? = some u → w.cell? ⟨b, off + j, none⟩ = some u := by
  intro Ps h j u hu
  have hj : j < Ps.length * 4 := by rw [← bxcs_length]; exact (List.getElem?_eq_some_iff.1 hu).1
  obtain ⟨q, i, rfl, hi⟩ : ∃ q i, j = q * 4 + i ∧ i < 4 := ⟨j / 4, j % 4, by omega, Nat.mod_lt _ (by omega)⟩
  have hq : q < Ps.length := by omega
  rw [bxcs_at Ps q i hq hi] at hu
  have := h q hq i u hu
  rw [show off + q * 4 + i = off + (q * 4 + i) by omega] at this
  exact this
set_option maxRecDepth 100000 in
/-- what the reading of a slice of transactions gives -/
theorem bat_of_trod {H : Type} {enc : TypeId × Value → H} {W : World} {fuel : Nat} {cs : List Value} {y : DataW H × List MemPlace}
    (hf : DataW.trod enc Try.prog W 0 (fun _ => true) true fuel 22 cs = some y) :
    ∃ (a : Option Addr) (len cap : Nat) (Ps : List Bx), cs = [.slice a len cap] ∧ len = Ps.length ∧ len ≤ cap ∧ cap ≤ maxLen ∧ (a = none → cap = 0) ∧
      ((∀ z ∈ y.1.weights Try.prog 22, z ≤ reachBytes) → BatAt W a Ps ∧ len * 80 ≤ reachBytes) := by
  rcases Deep.open_slice Try.underlying22 hf with ⟨rfl, rfl⟩ | ⟨a, len, cap, m, n, D, Pl, rfl, hb, hl, hm, hmm, rfl, hx⟩
  · exact ⟨none, 0, 0, [], rfl, rfl, Nat.le_refl _, Nat.zero_le _, fun _ => rfl, fun _ => ⟨⟨.inl rfl, fun x hx => by cases hx⟩, by simp⟩⟩
  · have hle : len ≤ m := by rw [hmm]; simpa using hl
    have hI : Inhabited Bx := ⟨bxD⟩
    rw [cellsTx] at hx
    obtain ⟨Z, hZ⟩ := Deep.choose_lt (α := Bx) (n := len) (p := fun i x => ∃ b off, a.add (i * 4) = ⟨b, off, none⟩ ∧ (∀ j u, (bxc x)[j]? = some u → W.cell? ⟨b, off + j, none⟩ = some u) ∧ (SizedT (D i) → BxOK W x)) (fun i hi => by
      obtain ⟨cs', h1, h2⟩ := hx i (by omega)
      obtain ⟨b, off, x, h3⟩ := tx_of_trod h1 h2
      exact ⟨x, b, off, h3⟩)
    have hpd : ∀ i, i < len → bd ((List.range len).map Z) i = Z i := fun i hi => by simp [bd, List.getD_eq_getElem?_getD, hi]
    refine ⟨some a, len, cap, (List.range len).map Z, rfl, by simp, hl, hm, by simp, fun hz => ?_⟩
    simp only [DataW.weights, Try.underlying22, bytesTx, List.mem_cons, List.mem_append] at hz
    refine ⟨⟨?_, fun x hx' => ?_⟩, ?_⟩
    · by_cases h0 : len = 0
      · left; subst h0; rfl
      · right
        obtain ⟨b, off, h1, _⟩ := hZ 0 (by omega)
        have h1' : a = ⟨b, off, none⟩ := by simpa [Addr.add] using h1
        subst h1'
        refine ⟨b, off, rfl, bxcs_of ((List.range len).map Z) (fun i hi j u hu => ?_)⟩
        have hi' : i < len := by simpa using hi
        obtain ⟨b', off', h2, h3, _⟩ := hZ i hi'
        rw [Go.WideShapes.add_plain] at h2
        simp only [Addr.mk.injEq, and_true] at h2
        obtain ⟨rfl, rfl⟩ := h2
        rw [hpd i hi'] at hu
        exact h3 j u hu
    · obtain ⟨i, hi, rfl⟩ := List.mem_map.1 hx'
      have hi' : i < len := by simpa using hi
      obtain ⟨_, _, _, _, h4⟩ := hZ i hi'
      refine h4 (fun z hzz => hz z (.inr (.inl (weightsAll_mem (ds := (List.range len).map D) (List.mem_map.2 ⟨i, by simpa using hi', rfl⟩) z hzz))))
    · have := hz _ (.inl rfl)
      simp at this
      omega
end Go.Proofs.Ytonefdbfodjadab.Kk
