/-
  FROM THE READINGS OF []api.Version AND []int ARGUMENTS TO LISTS.
-/
import Derived.Test.YteobmijfbjgccaaWRow
import Derived.SizedLaws
import Derived.Lib.SmallJoins
import Derived.Deep.Slices
import Derived.OpenShut
import Derived.ChangeOld
namespace Go.Proofs.Yteobmijfbjgccaa
open Go.ChangeShapes Go.WideShapes Go.ChangeAt Go.RowKit

theorem wAll_memW {H : Type} {P : Program} {e : TypeId} : ∀ {ds : List (DataW H)} {d : DataW H}, d ∈ ds → ∀ z ∈ d.weights P e, z ∈ DataW.weightsAll P e ds
  | d0 :: ds, d, hd, z, hz => by
    simp only [DataW.weightsAll, List.mem_append]
    rcases List.mem_cons.1 hd with rfl | h
    · exact .inl hz
    · exact .inr (wAll_memW h z hz)
/-- the cells of a list of parts of one length -/
theorem flat_atW {α : Type} (f : α → List Value) {sz : Nat} (hl : ∀ x, (f x).length = sz) : ∀ (xs : List α) (j : Nat) (u : Value), (xs.flatMap f)[j]? = some u → ∃ i m, ∃ hi : i < xs.length, j = i * sz + m ∧ m < sz ∧ (f xs[i])[m]? = some u
  | [], j, u, h => by simp at h
  | x :: xs, j, u, h => by
    rw [List.flatMap_cons] at h
    by_cases hj : j < sz
    · rw [List.getElem?_append_left (by rw [hl]; exact hj)] at h
      exact ⟨0, j, by simp, by omega, hj, by simpa using h⟩
    · rw [List.getElem?_append_right (by rw [hl]; omega), hl] at h
      obtain ⟨i, m, hi, e, hm, hu⟩ := flat_atW f hl xs (j - sz) u h
      refine ⟨i + 1, m, by simp; omega, ?_, hm, by simpa using hu⟩
      rw [Nat.add_mul]
      omega
set_option maxRecDepth 100000 in
/-- a slice of parts -/
theorem slice_of_trodW {H : Type} {enc : TypeId × Value → H} {W : World} {TS TE : TypeId} {sz bt : Nat} {α : Type} [Inhabited α] (f : α → List Value) (hl : ∀ x, (f x).length = sz) (h0 : 0 < sz) (P : α → Prop) (Q : α → Prop)
    (hu : Try.prog.underlying TS = some (.slice TE)) (hc : Try.prog.cellsOf TE = sz) (hbt : Try.prog.bytesOf TE = bt)
    (hel : ∀ fuel cs (y : DataW H × List MemPlace), cs.length = sz → DataW.trod enc Try.prog W 0 (fun _ => true) true fuel TE cs = some y → ∃ x, cs = f x ∧ P x ∧ ((∀ z ∈ y.1.weights Try.prog TE, z ≤ reachBytes) → Q x))
    {fuel : Nat} {cs : List Value} {y : DataW H × List MemPlace} (hf : DataW.trod enc Try.prog W 0 (fun _ => true) true fuel TS cs = some y) :
    ∃ (a : Option Addr) (len cap : Nat) (xs : List α), cs = [.slice a len cap] ∧ len = xs.length ∧ (a = none → cap = 0) ∧ WAt W a (xs.flatMap f) ∧ (∀ x ∈ xs, P x) ∧
      ((∀ z ∈ y.1.weights Try.prog TS, z ≤ reachBytes) → len * bt ≤ reachBytes ∧ ∀ x ∈ xs, Q x) := by
  rcases Deep.open_slice hu hf with ⟨rfl, rfl⟩ | ⟨a, len, cap, m, n, D, Pl, rfl, hb, hle0, hm, hmm, rfl, hx⟩
  · exact ⟨none, 0, 0, [], rfl, rfl, fun _ => rfl, fun j u h => by simp at h, by simp, fun _ => ⟨by simp, by simp⟩⟩
  · have hle : len ≤ m := by rw [hmm]; simpa using hle0
    rw [hc] at hx
    obtain ⟨Z, hZ⟩ := Deep.choose_lt (α := α) (n := len) (p := fun i x => (∃ b off, a.add (i * sz) = ⟨b, off, none⟩ ∧ ∀ j u, (f x)[j]? = some u → W.cell? ⟨b, off + j, none⟩ = some u) ∧ P x ∧ ((∀ z ∈ (D i).weights Try.prog TE, z ≤ reachBytes) → Q x)) (fun i hi => by
      obtain ⟨cs', h1, h2⟩ := hx i (by omega)
      obtain ⟨_, hlen, hcell⟩ := World.cells?_some h1
      obtain ⟨x, rfl, hP, hQ⟩ := hel _ _ _ hlen h2
      refine ⟨x, ?_, hP, hQ⟩
      generalize a.add (i * sz) = ad at *
      obtain ⟨b, off, spot⟩ := ad
      have hspot : spot = none := by
        have e0 := hcell 0 h0
        have h1 : (⟨b, off, spot⟩ : Addr).add 0 = ⟨b, off, spot⟩ := by simp [Addr.add]
        rw [h1, List.getElem?_eq_getElem (by omega)] at e0
        exact World.cell?_spot e0
      subst hspot
      refine ⟨b, off, rfl, fun j u hu => ?_⟩
      have := hcell j (by rw [← hl x]; exact (List.getElem?_eq_some_iff.1 hu).1)
      rw [Go.WideShapes.add_plain] at this
      rw [this]
      exact hu)
    refine ⟨some a, len, cap, (List.range len).map Z, rfl, by simp, by simp, fun j u hju => ?_, fun x hxm => ?_, fun hz => ⟨?_, fun x hxm => ?_⟩⟩
    · obtain ⟨i, m', hi, rfl, hm', hfu⟩ := flat_atW f hl _ _ _ hju
      have hi' : i < len := by simpa using hi
      have e : ((List.range len).map Z)[i] = Z i := by simp
      rw [e] at hfu
      obtain ⟨⟨b, off, h1, _⟩, _⟩ := hZ 0 (by omega)
      have h1' : a = ⟨b, off, none⟩ := by simpa [Addr.add] using h1
      subst h1'
      obtain ⟨⟨b', off', h2, h3⟩, _⟩ := hZ i hi'
      rw [Go.WideShapes.add_plain] at h2
      simp only [Addr.mk.injEq, and_true] at h2
      obtain ⟨rfl, rfl⟩ := h2
      have h4 := h3 _ _ hfu
      exact ⟨b, off, rfl, by rw [← Nat.add_assoc]; exact h4⟩
    · obtain ⟨i, hi, rfl⟩ := List.mem_map.1 hxm
      exact (hZ i (by simpa using hi)).2.1
    · simp only [DataW.weights, hu, hbt, List.mem_cons, List.mem_append] at hz
      have h1 := hz _ (.inl rfl)
      simp only [List.length_map, List.length_range] at h1
      exact Nat.le_trans (Nat.mul_le_mul_right _ (by omega)) h1
    · obtain ⟨i, hi, rfl⟩ := List.mem_map.1 hxm
      have hi' : i < len := by simpa using hi
      simp only [DataW.weights, hu, hbt, List.mem_cons, List.mem_append] at hz
      exact (hZ i hi').2.2 (fun z hzz => hz z (.inr (.inl (wAll_memW (ds := (List.range len).map D) (List.mem_map.2 ⟨i, by simpa using hi', rfl⟩) z hzz))))
theorem cellsIntW : Try.prog.cellsOf 3 = 1 := by kernel_rfl
theorem bytesIntW : Try.prog.bytesOf 3 = 8 := by kernel_rfl
theorem cellsInt64W : Try.prog.cellsOf 2 = 1 := by kernel_rfl
theorem cellsBoolW : Try.prog.cellsOf 4 = 1 := by kernel_rfl
theorem i64s_flat : ∀ l : List Int, l.flatMap (fun x => [Value.int .i64 x]) = i64s l
  | [] => rfl
  | x :: l => by simp [i64s, i64s_flat l]
section
variable {H : Type} {enc : TypeId × Value → H} {W : World}
set_option maxRecDepth 100000 in
theorem ints_of_trodW {fuel : Nat} {cs : List Value} {y : DataW H × List MemPlace} (hf : DataW.trod enc Try.prog W 0 (fun _ => true) true fuel 23 cs = some y) :
    ∃ (a : Option Addr) (len cap : Nat) (xs : List Int), cs = [.slice a len cap] ∧ len = xs.length ∧ (a = none → cap = 0) ∧ WAt W a (i64s xs) ∧
      ((∀ z ∈ y.1.weights Try.prog 23, z ≤ reachBytes) → len * 8 ≤ reachBytes) := by
  obtain ⟨a, len, cap, xs, h1, h2, h3, h4, _, h6⟩ := slice_of_trodW (fun x : Int => [Value.int .i64 x]) (sz := 1) (bt := 8) (fun _ => rfl) (by omega) (fun _ => True) (fun _ => True) Try.underlying23 cellsIntW bytesIntW (fun fuel cs y hl hf => by
    obtain ⟨x, h0, _, _⟩ := DataW.trod_int Try.underlying3 hf
    exact ⟨x, h0, trivial, fun _ => trivial⟩) hf
  rw [i64s_flat] at h4
  exact ⟨a, len, cap, xs, h1, h2, h3, h4, fun hz => (h6 hz).1⟩
end
end Go.Proofs.Yteobmijfbjgccaa
