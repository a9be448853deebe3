/-
  FROM THE READINGS OF []Make AND []Op ARGUMENTS TO LISTS.
-/
import Derived.Test.YteobmijfbjgccaaOpenSw
import Derived.Test.YteobmijfbjgccaaZArgs
namespace Go.Proofs.Yteobmijfbjgccaa
open Go.ChangeShapes Go.WideShapes Go.ChangeAt Go.RowKit

theorem cellsSl : Try.prog.cellsOf 23 = 1 := by kernel_rfl
theorem cellsMk : Try.prog.cellsOf 47 = 2 := by kernel_rfl
theorem bytesMk : Try.prog.bytesOf 47 = 32 := by kernel_rfl
section
variable {H : Type} {enc : TypeId × Value → H} {W : World}
set_option maxRecDepth 100000 in
theorem makes_of_trod {fuel : Nat} {cs : List Value} {y : DataW H × List MemPlace} (hf : DataW.trod enc Try.prog W 0 (fun _ => true) true fuel 22 cs = some y) :
    ∃ (a : Option Addr) (len cap : Nat) (xs : List Mk), cs = [.slice a len cap] ∧ len = xs.length ∧ (a = none → cap = 0) ∧ WAt W a (xs.flatMap mkc) ∧ (∀ x ∈ xs, WAt W x.a (i64s x.zs)) ∧
      ((∀ z ∈ y.1.weights Try.prog 22, z ≤ reachBytes) → len * 32 ≤ reachBytes ∧ ∀ x ∈ xs, x.zs.length * 8 ≤ reachBytes) := by
  have hI : Inhabited Mk := ⟨⟨0, none, 0, []⟩⟩
  exact slice_of_trodW mkc (sz := 2) (bt := 32) (fun _ => rfl) (by omega) (fun x => WAt W x.a (i64s x.zs)) (fun x => x.zs.length * 8 ≤ reachBytes) Try.underlying22 cellsMk bytesMk (fun fuel cs y hl hf => by
    obtain ⟨ys, k, hk, hxy, _, hxl, hf⟩ := DataW.trod_struct Try.underlying47 hf
    match ys, hxl, cs, hl with
    | [y0, y1], _, [v0, v1], _ =>
      have g0 := hf 0 _ rfl
      have g1 := hf 1 _ rfl
      simp [cellsIntW, cellsSl] at g0 g1
      obtain ⟨x0, e0, _, _⟩ := DataW.trod_int Try.underlying3 g0
      obtain ⟨a, len, cap, xs, e1, e2, _, e4, e5⟩ := ints_of_trodW g1
      simp only [List.cons.injEq, and_true] at e0 e1
      subst e0 e1
      refine ⟨⟨x0, a, cap, xs⟩, by rw [e2]; rfl, e4, fun hz => ?_⟩
      simp only [← e2]
      refine e5 (fun z hzz => hz z ?_)
      rw [hxy]
      simp only [List.map_cons, List.map_nil, DataW.weights, Try.underlying47]
      exact DataW.weights_mem_each (j := 1) (t := 23) (d := y1.1) rfl rfl z hzz) hf
theorem cellsOq : Try.prog.cellsOf 33 = 3 := by kernel_rfl
theorem bytesOq : Try.prog.bytesOf 33 = 40 := by kernel_rfl
set_option maxRecDepth 100000 in
theorem ops_of_trodZ {fuel : Nat} {cs : List Value} {y : DataW H × List MemPlace} (hf : DataW.trod enc Try.prog W 0 (fun _ => true) true fuel 24 cs = some y) :
    ∃ (a : Option Addr) (len cap : Nat) (xs : List Oq), cs = [.slice a len cap] ∧ len = xs.length ∧ (a = none → cap = 0) ∧ WAt W a (xs.flatMap oqc) ∧ (∀ x ∈ xs, WAt W x.a (i64s x.ps) ∧ (x.a = none → x.c = 0)) ∧
      ((∀ z ∈ y.1.weights Try.prog 24, z ≤ reachBytes) → len * 40 ≤ reachBytes ∧ ∀ x ∈ xs, x.ps.length * 8 ≤ reachBytes) := by
  have hI : Inhabited Oq := ⟨⟨0, 0, none, 0, []⟩⟩
  exact slice_of_trodW oqc (sz := 3) (bt := 40) (fun _ => rfl) (by omega) (fun x => WAt W x.a (i64s x.ps) ∧ (x.a = none → x.c = 0)) (fun x => x.ps.length * 8 ≤ reachBytes) Try.underlying24 cellsOq bytesOq (fun fuel cs y hl hf => by
    obtain ⟨ys, k, hk, hxy, _, hxl, hf⟩ := DataW.trod_struct Try.underlying33 hf
    match ys, hxl, cs, hl with
    | [y0, y1, y2], _, [v0, v1, v2], _ =>
      have g0 := hf 0 _ rfl
      have g1 := hf 1 _ rfl
      have g2 := hf 2 _ rfl
      simp [cellsIntW, cellsSl] at g0 g1 g2
      obtain ⟨x0, e0, _, _⟩ := DataW.trod_int Try.underlying3 g0
      obtain ⟨x1, e01, _, _⟩ := DataW.trod_int Try.underlying3 g1
      obtain ⟨a, len, cap, xs, e1, e2, e3, e4, e5⟩ := ints_of_trodW g2
      simp only [List.cons.injEq, and_true] at e0 e1 e01
      subst e0 e1 e01
      refine ⟨⟨x0, x1, a, cap, xs⟩, by rw [e2]; rfl, ⟨e4, e3⟩, fun hz => ?_⟩
      simp only [← e2]
      refine e5 (fun z hzz => hz z ?_)
      rw [hxy]
      simp only [List.map_cons, List.map_nil, DataW.weights, Try.underlying33]
      exact DataW.weights_mem_each (j := 2) (t := 23) (d := y2.1) rfl rfl z hzz) hf
end
end Go.Proofs.Yteobmijfbjgccaa
