/-
  FROM THE READING OF A []Op ARGUMENT TO ITS CALLS.
-/
import Derived.Test.YthdlilekilkogaaOpen
import Derived.Test.YthdlilekilkogaaBulk
import Derived.Deep.Slices
namespace Go.Proofs.Ythdlilekilkogaa
open Go.ChangeShapes Go.WideShapes Go.ChangeAt Go.RowKit

/-- one call of a script -/
structure OpV where
  kind : Int
  n : Nat
  bs : List Nat
  most : Int
  two : Bool
instance : Inhabited OpV := ⟨⟨0, 0, [], 0, false⟩⟩
/-- as its five cells hold it -/
structure OpIs (w : World) (b off : Nat) (o : OpV) : Prop where
  c0 : w.cell? ⟨b, off, none⟩ = some (.int .i64 o.kind)
  c1 : w.cell? ⟨b, off + 1, none⟩ = some (.int .u64 (o.n : Int))
  c2 : ∃ a c, w.cell? ⟨b, off + 2, none⟩ = some (.slice a o.bs.length c) ∧ BytesAt w a o.bs ∧ (a = none → c = 0)
  c3 : w.cell? ⟨b, off + 3, none⟩ = some (.int .i64 o.most)
  c4 : w.cell? ⟨b, off + 4, none⟩ = some (.bool o.two)
  hk : -9223372036854775808 ≤ o.kind ∧ o.kind ≤ 9223372036854775807
  hn : o.n < 18446744073709551616
  hm : -9223372036854775808 ≤ o.most ∧ o.most ≤ 9223372036854775807
/-- a script -/
def ScriptAt (w : World) (ao : Option Addr) (ops : List OpV) : Prop := ops = [] ∨ ∃ b off, ao = some ⟨b, off, none⟩ ∧ ∀ i, i < ops.length → OpIs w b (off + i * 5) (ops.getD i default)
def bulkOps (ops : List OpV) : Nat := (ops.map fun o => o.bs.length + 1).sum

theorem bulkOps_le {H : Type} (Z : Nat → OpV) (D : Nat → DataW H) : ∀ (xs : List Nat), (∀ x ∈ xs, (Z x).bs.length + 1 ≤ Rows.uptoBulk (D x)) → bulkOps (xs.map Z) ≤ Rows.uptoBulkAll (xs.map D)
  | [], _ => by simp [bulkOps, Rows.uptoBulkAll]
  | x :: xs, h => by
    have h1 := h x (by simp)
    have h2 := bulkOps_le Z D xs (fun y hy => h y (by simp [hy]))
    simp only [bulkOps, List.map_cons, List.sum_cons, Rows.uptoBulkAll] at h2 ⊢
    omega

theorem ops_length (ops : List OpV) : ops.length ≤ bulkOps ops := by
  induction ops with
  | nil => simp
  | cons o r ih => simp only [bulkOps, List.map_cons, List.sum_cons, List.length_cons] at ih ⊢; omega

theorem cellsOp : Try.prog.cellsOf 34 = 5 := by kernel_rfl
theorem cellsInt : Try.prog.cellsOf 3 = 1 := by kernel_rfl
theorem cellsU64 : Try.prog.cellsOf 32 = 1 := by kernel_rfl
theorem cellsBs : Try.prog.cellsOf 26 = 1 := by kernel_rfl
theorem cellsBool : Try.prog.cellsOf 4 = 1 := by kernel_rfl

/-- one element -/
theorem op_of_trod {H : Type} {enc : TypeId × Value → H} {W : World} {fuel : Nat} {a : Addr} {i : Nat} {cs : List Value} {y : DataW H × List MemPlace} (hc : W.cells? 0 (a.add (i * 5)) 5 = some cs)
    (hf : DataW.trod enc Try.prog W 0 (fun _ => true) true fuel 34 cs = some y) :
    ∃ (b off : Nat) (o : OpV), a.add (i * 5) = ⟨b, off, none⟩ ∧ OpIs W b off o ∧ o.bs.length + 1 ≤ Rows.uptoBulk y.1 := by
  obtain ⟨_, hlen, hcell⟩ := World.cells?_some hc
  obtain ⟨xs, k, hk, hxy, _, hxl, hf⟩ := DataW.trod_struct Try.underlying34 hf
  match xs, hxl, cs, hlen with
  | [y0, y1, y2, y3, y4], _, [v0, v1, v2, v3, v4], _ =>
    have g0 := hf 0 _ rfl
    have g1 := hf 1 _ rfl
    have g2 := hf 2 _ rfl
    have g3 := hf 3 _ rfl
    have g4 := hf 4 _ rfl
    simp [cellsInt, cellsU64, cellsBs, cellsBool] at g0 g1 g2 g3 g4
    have e0 := hcell 0 (by omega)
    have e1 := hcell 1 (by omega)
    have e2 := hcell 2 (by omega)
    have e3 := hcell 3 (by omega)
    have e4 := hcell 4 (by omega)
    generalize a.add (i * 5) = ad at *
    obtain ⟨b, off, spot⟩ := ad
    have hspot : spot = none := by
      have h1 : (⟨b, off, spot⟩ : Addr).add 0 = ⟨b, off, spot⟩ := by simp [Addr.add]
      rw [h1] at e0
      exact World.cell?_spot e0
    subst hspot
    rw [Go.WideShapes.add_plain] at e0 e1 e2 e3 e4
    obtain ⟨x0, h0, _, wx0⟩ := DataW.trod_int Try.underlying3 g0
    obtain ⟨x1, h1, _, wx1⟩ := DataW.trod_int Try.underlying32 g1
    obtain ⟨x3, h3, _, wx3⟩ := DataW.trod_int Try.underlying3 g3
    obtain ⟨x4, h4, _⟩ := DataW.trod_bool Try.underlying4 g4
    obtain ⟨a2, l2, c2, zs, h2, hn2, hb2, hnil2, _, _, hx2⟩ := bytes_of_trod g2
    simp only [List.cons.injEq, and_true] at h0 h1 h2 h3 h4
    subst h0 h1 h2 h3 h4 hn2
    have bx0 := bounds_i64 wx0
    have bx1 := bounds_u64 wx1
    have bx3 := bounds_i64 wx3
    obtain ⟨n1, rfl⟩ := Int.eq_ofNat_of_zero_le bx1.1
    refine ⟨b, off, ⟨x0, n1, zs, x3, x4⟩, rfl, ⟨by simpa using e0, by simpa using e1, ⟨a2, c2, by simpa using e2, hb2, hnil2⟩, by simpa using e3, by simpa using e4, bx0, by show n1 < _; omega, bx3⟩, ?_⟩
    have h5 := bulk_bytes hx2
    subst hxy
    simp only [List.map_cons, List.map_nil, Rows.uptoBulk, Rows.uptoBulkAll]
    omega

/-- what the reading of a script gives -/
theorem ops_of_trod {H : Type} {enc : TypeId × Value → H} {W : World} {fuel : Nat} {cs : List Value} {y : DataW H × List MemPlace}
    (hf : DataW.trod enc Try.prog W 0 (fun _ => true) true fuel 22 cs = some y) :
    ∃ (lo : Option Addr) (cap : Nat) (ops : List OpV), cs = [.slice lo ops.length cap] ∧ ScriptAt W lo ops ∧ bulkOps ops ≤ Rows.uptoBulk y.1 ∧ ops.length ≤ cap ∧ cap ≤ maxLen := by
  rcases Deep.open_slice Try.underlying22 hf with ⟨rfl, rfl⟩ | ⟨a, len, cap, m, n, D, Pl, rfl, hb, hl, hm, hmm, rfl, hx⟩
  · exact ⟨none, 0, [], rfl, .inl rfl, by simp [bulkOps], by simp, Nat.zero_le _⟩
  · have hle : len ≤ m := by rw [hmm]; simpa using hl
    rw [cellsOp] at hx
    obtain ⟨Z, hZ⟩ := Deep.choose_lt (α := OpV) (n := len) (p := fun i o => ∃ b off, a.add (i * 5) = ⟨b, off, none⟩ ∧ OpIs W b off o ∧ o.bs.length + 1 ≤ Rows.uptoBulk (D i)) (fun i hi => by
      obtain ⟨cs', h1, h2⟩ := hx i (by omega)
      obtain ⟨b, off, o, h3, h4, h5⟩ := op_of_trod h1 h2
      exact ⟨o, b, off, h3, h4, h5⟩)
    refine ⟨some a, cap, (List.range len).map Z, by simp, ?_, ?_, by simpa using hl, hm⟩
    · by_cases h0 : len = 0
      · left; subst h0; rfl
      · right
        obtain ⟨b, off, h1, _, _⟩ := hZ 0 (by omega)
        have h1' : a = ⟨b, off, none⟩ := by simpa [Addr.add] using h1
        subst h1'
        refine ⟨b, off, rfl, fun i hi => ?_⟩
        have hi' : i < len := by simpa using hi
        obtain ⟨b', off', h2, h3, _⟩ := hZ i hi'
        rw [Go.WideShapes.add_plain] at h2
        simp only [Addr.mk.injEq, and_true] at h2
        obtain ⟨rfl, rfl⟩ := h2
        have e : ((List.range len).map Z).getD i default = Z i := by simp [List.getD_eq_getElem?_getD, hi']
        rw [e]
        exact h3
    · have h1 := bulkOps_le Z D (List.range len) (fun x hx' => by obtain ⟨_, _, _, _, h⟩ := hZ x (by simpa using hx'); exact h)
      simp only [Rows.uptoBulk]
      omega

end Go.Proofs.Ythdlilekilkogaa
