/-
  FROM THE READING OF A []Op ARGUMENT TO ITS CALLS ON LISTS.
-/
import Derived.Test.YtnjgaibcpcpmcabSPlay
import Derived.Test.YtnjgaibcpcpmcabOpenKeys
import Derived.Test.YtnjgaibcpcpmcabBulk
import Derived.Deep.Slices
namespace Go.Proofs.Ytnjgaibcpcpmcab
open Go.ChangeShapes Go.WideShapes Go.ChangeAt Go.RowKit

instance : Inhabited OpR := ⟨⟨0, none, 0, 0, none, 0, 0, 0, 0, 0, [], []⟩⟩
theorem cellsOpK : Try.prog.cellsOf 49 = 6 := by kernel_rfl
theorem cellsKs : Try.prog.cellsOf 29 = 1 := by kernel_rfl
/-- as its six cells hold it -/
structure OpIsK (w : World) (b off : Nat) (o : OpR) : Prop where
  c0 : w.cell? ⟨b, off, none⟩ = some (.int .i64 o.kind)
  c1 : w.cell? ⟨b, off + 1, none⟩ = some (.slice o.aA o.nA o.cA)
  c2 : w.cell? ⟨b, off + 2, none⟩ = some (.slice o.aB o.nB o.cB)
  c3 : w.cell? ⟨b, off + 3, none⟩ = some (.int .i64 o.t)
  c4 : w.cell? ⟨b, off + 4, none⟩ = some (.int .i64 o.r)
  c5 : w.cell? ⟨b, off + 5, none⟩ = some (.int .i64 o.parts)
  A : Lst w o.aA o.nA o.cA o.A
  B : Lst w o.aB o.nB o.cB o.B
  in64 : ∀ k ∈ o.A, In64 k.2
theorem bulk_mem {H : Type} : ∀ (l : List (DataW H)) (d : DataW H), d ∈ l → Rows.uptoBulk d ≤ Rows.uptoBulkAll l
  | [], d, h => by simp at h
  | x :: l, d, h => by
    rcases List.mem_cons.1 h with rfl | h
    · simp only [Rows.uptoBulkAll]; omega
    · have := bulk_mem l d h
      simp only [Rows.uptoBulkAll]; omega

set_option maxRecDepth 100000 in
/-- one element -/
theorem opK_of_trod {H : Type} {enc : TypeId × Value → H} {W : World} {fuel : Nat} {a : Addr} {i : Nat} {cs : List Value} {y : DataW H × List MemPlace} (hc : W.cells? 0 (a.add (i * 6)) 6 = some cs)
    (hf : DataW.trod enc Try.prog W 0 (fun _ => true) true fuel 49 cs = some y) :
    ∃ (b off : Nat) (o : OpR), a.add (i * 6) = ⟨b, off, none⟩ ∧ OpIsK W b off o ∧ o.nA + o.nB ≤ Rows.uptoBulk y.1 := by
  obtain ⟨_, hlen, hcell⟩ := World.cells?_some hc
  obtain ⟨xs, k, hk, hxy, _, hxl, hf⟩ := DataW.trod_struct Try.underlying49 hf
  match xs, hxl, cs, hlen with
  | [y0, y1, y2, y3, y4], _, [v0, v1, v2, v3, v4, v5], _ =>
    have g0 := hf 0 _ rfl
    have g1 := hf 1 _ rfl
    have g2 := hf 2 _ rfl
    have g3 := hf 3 _ rfl
    have g4 := hf 4 _ rfl
    simp [cellsInt', cellsKs, cellsKey] at g0 g1 g2 g3 g4
    have e0 := hcell 0 (by omega)
    have e1 := hcell 1 (by omega)
    have e2 := hcell 2 (by omega)
    have e3 := hcell 3 (by omega)
    have e4 := hcell 4 (by omega)
    have e5 := hcell 5 (by omega)
    generalize a.add (i * 6) = ad at *
    obtain ⟨b, off, spot⟩ := ad
    have hspot : spot = none := by
      have h1 : (⟨b, off, spot⟩ : Addr).add 0 = ⟨b, off, spot⟩ := by simp [Addr.add]
      rw [h1] at e0
      exact World.cell?_spot e0
    subst hspot
    rw [Go.WideShapes.add_plain] at e0 e1 e2 e3 e4 e5
    obtain ⟨x0, h0, _, _⟩ := DataW.trod_int Try.underlying3 g0
    obtain ⟨x4, h4, _, _⟩ := DataW.trod_int Try.underlying3 g4
    obtain ⟨a1, l1, c1, z1, h1, hk1, hx1⟩ := keys_of_trod g1
    obtain ⟨a2, l2, c2, z2, h2, hk2, hx2⟩ := keys_of_trod g2
    obtain ⟨zs, kz, _, _, _, hzl, hz⟩ := DataW.trod_struct Try.underlying28 g3
    match zs, hzl with
    | [u0, u1], _ =>
      have q0 := hz 0 _ rfl
      have q1 := hz 1 _ rfl
      simp [cellsInt', cellsInt64'] at q0 q1
      obtain ⟨t0, m0, _, _⟩ := DataW.trod_int Try.underlying3 q0
      obtain ⟨t1, m1, _, _⟩ := DataW.trod_int Try.underlying2 q1
      simp only [List.cons.injEq, and_true] at h0 h1 h2 h4 m0 m1
      subst h0 h1 h2 h4 m0 m1
      refine ⟨b, off, ⟨x0, a1, l1, c1, a2, l2, c2, t0, t1, x4, z1, z2⟩, rfl, ⟨by simpa using e0, by simpa using e1, by simpa using e2, by simpa using e3, by simpa using e4, by simpa using e5, ⟨hk1.1, hk1.2.1, hk1.2.2.1, hk1.2.2.2.1⟩, ⟨hk2.1, hk2.2.1, hk2.2.2.1, hk2.2.2.2.1⟩, fun k hk => (hk1.2.2.2.2.2 k hk).2⟩, ?_⟩
      have b1 := bulk_bytes hx1
      have b2 := bulk_bytes hx2
      subst hxy
      simp only [List.map_cons, List.map_nil, Rows.uptoBulk, Rows.uptoBulkAll]
      omega

set_option maxRecDepth 100000 in
/-- what the reading of a script gives -/
theorem opsK_of_trod {H : Type} {enc : TypeId × Value → H} {W : World} {fuel : Nat} {cs : List Value} {y : DataW H × List MemPlace}
    (hf : DataW.trod enc Try.prog W 0 (fun _ => true) true fuel 22 cs = some y) :
    ∃ (so : Option Addr) (n cap : Nat) (ops : Nat → OpR), cs = [.slice so n cap] ∧ (Rows.uptoBulk y.1 ≤ 1048576 → OpsAt W so n ops ∧ n ≤ 2097152) := by
  rcases Deep.open_slice Try.underlying22 hf with ⟨rfl, rfl⟩ | ⟨a, len, cap, m, n, D, Pl, rfl, hb, hl, hm, hmm, rfl, hx⟩
  · exact ⟨none, 0, 0, fun _ => default, rfl, fun _ => ⟨⟨.inl rfl, fun i hi => by omega, fun i hi => by omega, fun i hi => by omega, fun i hi => by omega⟩, by omega⟩⟩
  · have hle : len ≤ m := by rw [hmm]; simpa using hl
    rw [cellsOpK] at hx
    obtain ⟨Z, hZ⟩ := Deep.choose_lt (α := OpR) (n := len) (p := fun i o => ∃ b off, a.add (i * 6) = ⟨b, off, none⟩ ∧ OpIsK W b off o ∧ o.nA + o.nB ≤ Rows.uptoBulk (D i)) (fun i hi => by
      obtain ⟨cs', h1, h2⟩ := hx i (by omega)
      obtain ⟨b, off, o, h3, h4, h5⟩ := opK_of_trod h1 h2
      exact ⟨o, b, off, h3, h4, h5⟩)
    refine ⟨some a, len, cap, Z, rfl, fun hsm => ?_⟩
    have hlen : len ≤ 1048576 := by
      have h1 := bulk_length ((List.range len).map D)
      simp only [Rows.uptoBulk] at hsm
      simp only [List.length_map, List.length_range] at h1
      omega
    refine ⟨⟨?_, fun i hi => ?_, fun i hi => ?_, fun i hi => ?_, fun i hi => ?_⟩, by omega⟩
    · by_cases h0 : len = 0
      · exact .inl h0
      · obtain ⟨b, off, h1, _, _⟩ := hZ 0 (by omega)
        have h1' : a = ⟨b, off, none⟩ := by simpa [Addr.add] using h1
        subst h1'
        refine .inr ⟨b, off, rfl, fun i hi => ?_⟩
        obtain ⟨b', off', h2, h3, _⟩ := hZ i hi
        rw [Go.WideShapes.add_plain] at h2
        simp only [Addr.mk.injEq, and_true] at h2
        obtain ⟨rfl, rfl⟩ := h2
        exact ⟨h3.c0, h3.c1, h3.c2, h3.c3, h3.c4, h3.c5⟩
    · obtain ⟨_, _, _, h3, _⟩ := hZ i hi; exact h3.A
    · obtain ⟨_, _, _, h3, _⟩ := hZ i hi; exact h3.B
    · obtain ⟨_, _, _, _, h4⟩ := hZ i hi
      have h5 := bulk_mem ((List.range len).map D) (D i) (List.mem_map.2 ⟨i, List.mem_range.2 hi, rfl⟩)
      simp only [Rows.uptoBulk] at hsm
      omega
    · obtain ⟨_, _, _, h3, _⟩ := hZ i hi; exact h3.in64

end Go.Proofs.Ytnjgaibcpcpmcab
