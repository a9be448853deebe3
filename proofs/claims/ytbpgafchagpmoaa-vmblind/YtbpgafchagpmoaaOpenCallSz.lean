/-
  HOW LONG A Call's LISTS ARE.
-/
import Derived.Test.YtbpgafchagpmoaaOpenCall
namespace Go.Proofs.Ytbpgafchagpmoaa
open Go.ChangeShapes Go.WideShapes Go.ChangeAt Go.RowKit

theorem bytesCell : Try.prog.bytesOf 64 = 16 := by kernel_rfl
theorem bytes64 : Try.prog.bytesOf 2 = 8 := by kernel_rfl
theorem call_code_sized {H : Type} {ts : List TypeId} {ds : List (DataW H)} {j n na nr : Nat} {d : DataW H} (h : (DataW.weightsEach Try.prog ts ds).all (· ≤ reachBytes) = true) (ht : ts[j]? = some 28) (hd : ds[j]? = some d) (hx : CallSz d n na nr) : n * 16 ≤ 140737488351232 := by
  obtain ⟨x0, x1, x2, x3, x4, x5, x6, rfl, hx, _, _⟩ := hx
  rcases hx with h0 | ⟨elems, spare, rfl, hl⟩
  · omega
  · have h1 := List.all_eq_true.1 h _ (DataW.weights_mem_each ht hd ((elems.length + spare.length) * 16) (by
      simp only [DataW.weights, Try.underlying28]
      refine DataW.weights_mem_each (j := 0) (t := 24) (d := .agg [x0, x1, x2, x3, .slice elems spare]) rfl rfl _ ?_
      simp only [DataW.weights, Try.underlying24]
      refine DataW.weights_mem_each (j := 4) (t := 22) (d := .slice elems spare) rfl rfl _ ?_
      simp [DataW.weights, Try.underlying22, bytesKey]))
    have h2 : (elems.length + spare.length) * 16 ≤ reachBytes := by simpa using h1
    simp only [reachBytes] at h2
    omega
theorem call_reads_sized {H : Type} {ts : List TypeId} {ds : List (DataW H)} {j n na nr : Nat} {d : DataW H} (h : (DataW.weightsEach Try.prog ts ds).all (· ≤ reachBytes) = true) (ht : ts[j]? = some 28) (hd : ds[j]? = some d) (hx : CallSz d n na nr) : nr * 16 ≤ 140737488351232 := by
  obtain ⟨x0, x1, x2, x3, x4, x5, x6, rfl, _, _, hx⟩ := hx
  rcases hx with h0 | ⟨elems, spare, rfl, hl⟩
  · omega
  · have h1 := List.all_eq_true.1 h _ (DataW.weights_mem_each ht hd ((elems.length + spare.length) * 16) (by
      simp only [DataW.weights, Try.underlying28]
      refine DataW.weights_mem_each (j := 2) (t := 26) (d := .slice elems spare) rfl rfl _ ?_
      simp [DataW.weights, Try.underlying26, bytesCell]))
    have h2 : (elems.length + spare.length) * 16 ≤ reachBytes := by simpa using h1
    simp only [reachBytes] at h2
    omega
theorem call_args_sized {H : Type} {ts : List TypeId} {ds : List (DataW H)} {j n na nr : Nat} {d : DataW H} (h : (DataW.weightsEach Try.prog ts ds).all (· ≤ reachBytes) = true) (ht : ts[j]? = some 28) (hd : ds[j]? = some d) (hx : CallSz d n na nr) : na * 8 ≤ 140737488351232 := by
  obtain ⟨x0, x1, x2, x3, x4, x5, x6, rfl, _, hx, _⟩ := hx
  rcases hx with h0 | ⟨elems, spare, rfl, hl⟩
  · omega
  · have h1 := List.all_eq_true.1 h _ (DataW.weights_mem_each ht hd ((elems.length + spare.length) * 8) (by
      simp only [DataW.weights, Try.underlying28]
      refine DataW.weights_mem_each (j := 1) (t := 25) (d := .slice elems spare) rfl rfl _ ?_
      simp [DataW.weights, Try.underlying25, bytes64]))
    have h2 : (elems.length + spare.length) * 8 ≤ reachBytes := by simpa using h1
    simp only [reachBytes] at h2
    omega
end Go.Proofs.Ytbpgafchagpmoaa
