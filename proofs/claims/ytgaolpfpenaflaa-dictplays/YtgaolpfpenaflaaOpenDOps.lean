/-
  FROM THE READING OF A []Op ARGUMENT (layer 7) TO ITS CALLS.
-/
import Derived.Test.YtgaolpfpenaflaaLawDPlays
import Derived.Test.YtgaolpfpenaflaaOpenKeys
import Derived.Deep.Slices
namespace Go.Proofs.Ytgaolpfpenaflaa
open Go.ChangeShapes Go.WideShapes Go.ChangeAt Go.RowKit

instance : Inhabited Oq := ⟨⟨0, (0, 0), 0, 0, false⟩⟩
theorem cellsOpD : Try.prog.cellsOf 34 = 6 := by kernel_rfl
theorem cellsBool' : Try.prog.cellsOf 4 = 1 := by kernel_rfl
theorem bytesOpD : Try.prog.bytesOf 34 = 48 := by kernel_rfl
/-- as its six cells hold it -/
def OpIsD (w : World) (b off : Nat) (o : Oq) : Prop := w.cell? ⟨b, off, none⟩ = some (.int .i64 o.kd) ∧ w.cell? ⟨b, off + 1, none⟩ = some (.int .i64 o.k.1) ∧ w.cell? ⟨b, off + 2, none⟩ = some (.int .i64 o.k.2) ∧ w.cell? ⟨b, off + 3, none⟩ = some (.int .i64 o.x) ∧ w.cell? ⟨b, off + 4, none⟩ = some (.int .i64 o.n) ∧ w.cell? ⟨b, off + 5, none⟩ = some (.bool o.two)

set_option maxRecDepth 100000 in
/-- one element -/
theorem opD_of_trod {H : Type} {enc : TypeId × Value → H} {W : World} {fuel : Nat} {a : Addr} {i : Nat} {cs : List Value} {y : DataW H × List MemPlace} (hc : W.cells? 0 (a.add (i * 6)) 6 = some cs)
    (hf : DataW.trod enc Try.prog W 0 (fun _ => true) true fuel 34 cs = some y) :
    ∃ (b off : Nat) (o : Oq), a.add (i * 6) = ⟨b, off, none⟩ ∧ OpIsD W b off o ∧ KIn o.k ∧ In64 o.x := by
  obtain ⟨_, hlen, hcell⟩ := World.cells?_some hc
  obtain ⟨xs, k, hk, hxy, _, hxl, hf⟩ := DataW.trod_struct Try.underlying34 hf
  match xs, hxl, cs, hlen with
  | [y0, y1, y2, y3, y4], _, [v0, v1, v2, v3, v4, v5], _ =>
    have g0 := hf 0 _ rfl
    have g1 := hf 1 _ rfl
    have g2 := hf 2 _ rfl
    have g3 := hf 3 _ rfl
    have g4 := hf 4 _ rfl
    simp [cellsInt', cellsInt64', cellsKey, cellsBool'] at g0 g1 g2 g3 g4
    have e0 := hcell 0 (by omega)
    have e1 := hcell 1 (by omega)
    have e2 := hcell 2 (by omega)
    have e3 := hcell 3 (by omega)
    have e4 := hcell 4 (by omega)
    have e5 := hcell 5 (by omega)
    generalize a.add (i * 6) = ad at *
    obtain ⟨b, off, spot⟩ := ad
    have hspot : spot = none := by
      have h1 : (⟨b, off, spot⟩ : Addr).add 0 = ⟨b, off, spot⟩ := by simp [Addr.add]
      rw [h1] at e0
      exact World.cell?_spot e0
    subst hspot
    rw [Go.WideShapes.add_plain] at e0 e1 e2 e3 e4 e5
    obtain ⟨x0, h0, _, _⟩ := DataW.trod_int Try.underlying3 g0
    obtain ⟨x2, h2, _, w2⟩ := DataW.trod_int Try.underlying2 g2
    obtain ⟨x3, h3, _, _⟩ := DataW.trod_int Try.underlying3 g3
    obtain ⟨x4, h4, _⟩ := DataW.trod_bool Try.underlying4 g4
    obtain ⟨zs, kz, _, _, _, hzl, hz⟩ := DataW.trod_struct Try.underlying28 g1
    match zs, hzl with
    | [u0, u1], _ =>
      have q0 := hz 0 _ rfl
      have q1 := hz 1 _ rfl
      simp [cellsInt', cellsInt64'] at q0 q1
      obtain ⟨t0, m0, _, w0⟩ := DataW.trod_int Try.underlying3 q0
      obtain ⟨t1, m1, _, w1⟩ := DataW.trod_int Try.underlying2 q1
      simp only [List.cons.injEq, and_true] at h0 h2 h3 h4 m0 m1
      subst h0 h2 h3 h4 m0 m1
      exact ⟨b, off, ⟨x0, (t0, t1), x2, x3, x4⟩, rfl, ⟨by simpa using e0, by simpa using e1, by simpa using e2, by simpa using e3, by simpa using e4, by simpa using e5⟩, ⟨bounds_i64 w0, bounds_i64 w1⟩, bounds_i64 w2⟩

set_option maxRecDepth 100000 in
/-- what the reading of a script gives -/
theorem opsD_of_trod {H : Type} {enc : TypeId × Value → H} {W : World} {fuel : Nat} {cs : List Value} {y : DataW H × List MemPlace}
    (hf : DataW.trod enc Try.prog W 0 (fun _ => true) true fuel 22 cs = some y) :
    ∃ (so : Option Addr) (n cap : Nat) (l : List Oq), cs = [.slice so n cap] ∧ n = l.length ∧ OpsAt W so l ∧ (∀ o ∈ l, KIn o.k ∧ In64 o.x) ∧
      (n = 0 ∨ ∃ elems spare, y.1 = .slice elems spare ∧ n ≤ elems.length + spare.length) := by
  rcases Deep.open_slice Try.underlying22 hf with ⟨rfl, rfl⟩ | ⟨a, len, cap, m, n, D, Pl, rfl, hb, hl, hm, hmm, rfl, hx⟩
  · exact ⟨none, 0, 0, [], rfl, rfl, .inl rfl, by simp, .inl rfl⟩
  · have hle : len ≤ m := by rw [hmm]; simpa using hl
    rw [cellsOpD] at hx
    obtain ⟨Z, hZ⟩ := Deep.choose_lt (α := Oq) (n := len) (p := fun i o => ∃ b off, a.add (i * 6) = ⟨b, off, none⟩ ∧ OpIsD W b off o ∧ KIn o.k ∧ In64 o.x) (fun i hi => by
      obtain ⟨cs', h1, h2⟩ := hx i (by omega)
      obtain ⟨b, off, o, h3, h4, h5⟩ := opD_of_trod h1 h2
      exact ⟨o, b, off, h3, h4, h5⟩)
    refine ⟨some a, len, cap, (List.range len).map Z, rfl, by simp, ?_, ?_, .inr ⟨_, _, rfl, ?_⟩⟩
    · by_cases h0 : len = 0
      · left; subst h0; rfl
      · right
        obtain ⟨b, off, h1, h1c, _⟩ := hZ 0 (by omega)
        have h1' : a = ⟨b, off, none⟩ := by simpa [Addr.add] using h1
        subst h1'
        refine ⟨b, off, rfl, ?_, fun j hj => ?_⟩
        · have := h1c.1
          simp only [World.cell?] at this
          rcases h2 : W.heap[b]? with _ | o
          · rw [h2] at this; simp at this
          · exact (Array.getElem?_eq_some_iff.1 h2).1
        · have hj' : j < len := by simpa using hj
          obtain ⟨b', off', h2, h3, _⟩ := hZ j hj'
          rw [Go.WideShapes.add_plain] at h2
          simp only [Addr.mk.injEq, and_true] at h2
          obtain ⟨rfl, rfl⟩ := h2
          simp only [List.getElem_map, List.getElem_range]
          exact h3
    · intro o ho
      obtain ⟨i, hi, rfl⟩ := List.mem_map.1 ho
      obtain ⟨_, _, _, _, h5⟩ := hZ i (by simpa using hi)
      exact h5
    · simp
theorem opsD_of_sized {H : Type} {ts : List TypeId} {ds : List (DataW H)} {j len : Nat} {d : DataW H} (h : (DataW.weightsEach Try.prog ts ds).all (· ≤ reachBytes) = true) (ht : ts[j]? = some 22) (hd : ds[j]? = some d)
    (hx : len = 0 ∨ ∃ elems spare, d = .slice elems spare ∧ len ≤ elems.length + spare.length) : len * 48 ≤ 140737488351232 := by
  rcases hx with h0 | ⟨elems, spare, rfl, hl⟩
  · omega
  · have h1 := sized_slice h ht hd Try.underlying22
    rw [bytesOpD] at h1
    simp only [reachBytes] at h1
    omega

end Go.Proofs.Ytgaolpfpenaflaa
