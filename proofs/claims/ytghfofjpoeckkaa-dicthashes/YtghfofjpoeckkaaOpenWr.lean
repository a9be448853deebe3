/-
  FROM THE READING OF A []preludelaw07.Write ARGUMENT TO A LIST.
-/
import Derived.Test.YtghfofjpoeckkaaHSt
import Derived.SizedLaws
import Derived.Lib.SmallJoins
import Derived.Deep.Slices
import Derived.OpenShut
import Derived.ChangeOld
namespace Go.Proofs.Ytghfofjpoeckkaa
open Go.ChangeShapes Go.WideShapes Go.ChangeAt Go.RowKit

theorem cellsWr : Try.prog.cellsOf 34 = 3 := by kernel_rfl
theorem bytesWr : Try.prog.bytesOf 34 = 32 := by kernel_rfl
theorem cellsIntW : Try.prog.cellsOf 3 = 1 := by kernel_rfl
theorem cellsBoolW : Try.prog.cellsOf 4 = 1 := by kernel_rfl
theorem cellsStrW : Try.prog.cellsOf 9 = 1 := by kernel_rfl
theorem weights_at {H : Type} {ts : List TypeId} {ds : List (DataW H)} {j : Nat} {t : TypeId} {d : DataW H} (h : (DataW.weightsEach Try.prog ts ds).all (· ≤ reachBytes) = true) (ht : ts[j]? = some t) (hd : ds[j]? = some d) : ∀ z ∈ d.weights Try.prog t, z ≤ reachBytes := fun z hz => by
  have := List.all_eq_true.1 h _ (DataW.weights_mem_each ht hd z hz)
  simpa using this
def wrf (x : Wr) : List Value := [.string x.t, .int .i64 x.n, .bool x.o]
section
variable {H : Type} {enc : TypeId × Value → H} {W : World}
set_option maxRecDepth 100000 in
theorem wr_of_trod {fuel : Nat} {cs : List Value} {y : DataW H × List MemPlace} (hl : cs.length = 3) (hf : DataW.trod enc Try.prog W 0 (fun _ => true) true fuel 34 cs = some y) :
    ∃ x : Wr, cs = wrf x ∧ KIn x.t ∧ -9223372036854775808 ≤ x.n ∧ x.n ≤ 9223372036854775807 := by
  obtain ⟨ys, k, hk, hxy, _, hxl, hf⟩ := DataW.trod_struct Try.underlying34 hf
  match ys, hxl, cs, hl with
  | [y0, y1, y2], _, [v0, v1, v2], _ =>
    have g0 := hf 0 _ rfl
    have g1 := hf 1 _ rfl
    have g2 := hf 2 _ rfl
    simp [cellsIntW, cellsStrW, cellsBoolW] at g0 g1 g2
    obtain ⟨x0, h0, _, wx0⟩ := DataW.trod_string Try.underlying9 g0
    obtain ⟨x1, h1, _, wx1⟩ := DataW.trod_int Try.underlying3 g1
    obtain ⟨x2, h2, _⟩ := DataW.trod_bool Try.underlying4 g2
    simp only [List.cons.injEq, and_true] at h0 h1 h2
    subst h0 h1 h2
    exact ⟨⟨x0, x1, x2⟩, rfl, wx0, bounds_i64 wx1⟩
set_option maxRecDepth 100000 in
theorem wrs_of_trod {fuel : Nat} {cs : List Value} {y : DataW H × List MemPlace} (hf : DataW.trod enc Try.prog W 0 (fun _ => true) true fuel 22 cs = some y) :
    ∃ (a : Option Addr) (len cap : Nat) (xs : List Wr), cs = [.slice a len cap] ∧ len = xs.length ∧ WrsAt W a xs ∧ (∀ x ∈ xs, KIn x.t ∧ -9223372036854775808 ≤ x.n ∧ x.n ≤ 9223372036854775807) ∧
      ((∀ z ∈ y.1.weights Try.prog 22, z ≤ reachBytes) → len * 32 ≤ reachBytes) := by
  have hI : Inhabited Wr := ⟨⟨⟨#[]⟩, 0, false⟩⟩
  rcases Deep.open_slice Try.underlying22 hf with ⟨rfl, rfl⟩ | ⟨a, len, cap, m, n, D, Pl, rfl, hb, hle0, hm, hmm, rfl, hx⟩
  · exact ⟨none, 0, 0, [], rfl, rfl, fun i hi => by simp at hi, by simp, fun _ => by simp⟩
  · have hle : len ≤ m := by rw [hmm]; simpa using hle0
    rw [cellsWr] at hx
    obtain ⟨Z, hZ⟩ := Deep.choose_lt (α := Wr) (n := len) (p := fun i x => (∃ b off, a.add (i * 3) = ⟨b, off, none⟩ ∧ ∀ j u, (wrf x)[j]? = some u → W.cell? ⟨b, off + j, none⟩ = some u) ∧ KIn x.t ∧ -9223372036854775808 ≤ x.n ∧ x.n ≤ 9223372036854775807) (fun i hi => by
      obtain ⟨cs', h1, h2⟩ := hx i (by omega)
      obtain ⟨_, hlen, hcell⟩ := World.cells?_some h1
      obtain ⟨x, rfl, hP⟩ := wr_of_trod hlen h2
      refine ⟨x, ?_, hP⟩
      generalize a.add (i * 3) = ad at *
      obtain ⟨b, off, spot⟩ := ad
      have hspot : spot = none := by
        have e0 := hcell 0 (by omega)
        have h1 : (⟨b, off, spot⟩ : Addr).add 0 = ⟨b, off, spot⟩ := by simp [Addr.add]
        rw [h1, List.getElem?_eq_getElem (by omega)] at e0
        exact World.cell?_spot e0
      subst hspot
      refine ⟨b, off, rfl, fun j u hu => ?_⟩
      have := hcell j (by have := (List.getElem?_eq_some_iff.1 hu).1; exact this)
      rw [Go.WideShapes.add_plain] at this
      rw [this]
      exact hu)
    refine ⟨some a, len, cap, (List.range len).map Z, rfl, by simp, fun i hi => ?_, fun x hxm => ?_, fun hz => ?_⟩
    · have hi' : i < len := by simpa using hi
      have e : ((List.range len).map Z)[i] = Z i := by simp
      rw [e]
      obtain ⟨⟨b, off, h1, _⟩, _⟩ := hZ 0 (by omega)
      have h1' : a = ⟨b, off, none⟩ := by simpa [Addr.add] using h1
      subst h1'
      obtain ⟨⟨b', off', h2, h3⟩, _⟩ := hZ i hi'
      rw [Go.WideShapes.add_plain] at h2
      simp only [Addr.mk.injEq, and_true] at h2
      obtain ⟨rfl, rfl⟩ := h2
      exact ⟨b, off, rfl, h3 0 _ rfl, h3 1 _ rfl, h3 2 _ rfl⟩
    · obtain ⟨i, hi, rfl⟩ := List.mem_map.1 hxm
      exact (hZ i (by simpa using hi)).2
    · simp only [DataW.weights, Try.underlying22, bytesWr, List.mem_cons, List.mem_append] at hz
      have h1 := hz _ (.inl rfl)
      simp only [List.length_map, List.length_range] at h1
      exact Nat.le_trans (Nat.mul_le_mul_right _ (by omega)) h1
end
end Go.Proofs.Ytghfofjpoeckkaa
