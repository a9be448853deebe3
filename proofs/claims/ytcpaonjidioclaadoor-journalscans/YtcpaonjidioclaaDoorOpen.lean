/-
  FROM THE READING OF A []byte ARGUMENT (OR FIELD) TO ITS BYTES.
-/
import Derived.Test.YtcpaonjidioclaaDoorMem
import Derived.SizedLaws
import Derived.Lib.SmallJoins
namespace Go.Proofs.YtcpaonjidioclaaDoor
open Go.ChangeShapes Go.WideShapes Go.ChangeAt Go.RowKit

theorem bytesAt_of_ints {W : World} {a : Addr} {len cap : Nat} {zs : List Int} (hl : len ≤ cap) (hz : zs.length = cap)
    (hcell : ∀ i, i < zs.length → W.cell? (a.add i) = some (.int .u8 (zs.getD i 0))) (hwf : ∀ n ∈ zs, (Lit.int .u8 n).wf = true) :
    BytesAt W (some a) ((zs.take len).map Int.toNat) := by
  have hb : ∀ n ∈ zs, 0 ≤ n ∧ n ≤ 255 := fun n hn => bounds_u8 (hwf n hn)
  refine ⟨?_, ?_⟩
  · intro z hz'
    obtain ⟨n, hn, rfl⟩ := List.mem_map.1 hz'
    have := hb n (List.mem_of_mem_take hn)
    omega
  · by_cases h0 : zs = []
    · left; simp [h0]
    · right
      obtain ⟨b, off, rfl, hc⟩ := ints_at hcell (by cases zs with | nil => exact absurd rfl h0 | cons z zs => simp)
      refine ⟨b, off, rfl, fun j hj => ?_⟩
      have hj' : j < len := by simp at hj; omega
      rw [hc j (by omega)]
      have hjz : j < zs.length := by omega
      have := hb zs[j] (List.getElem_mem hjz)
      simp [List.getD_eq_getElem?_getD, hj', List.getElem?_eq_getElem hjz]
      omega

/-- what the reading of a slice of bytes gives -/
theorem bytes_of_trod {H : Type} {enc : TypeId × Value → H} {W : World} {fuel : Nat} {cs : List Value} {y : DataW H × List MemPlace}
    (hf : DataW.trod enc Tryd.prog W 0 (fun _ => true) true fuel 22 cs = some y) :
    ∃ (a : Option Addr) (len cap : Nat) (zs : List Nat), cs = [.slice a len cap] ∧ len = zs.length ∧ BytesAt W a zs ∧ (a = none → cap = 0) ∧ len ≤ cap ∧ cap ≤ maxLen ∧
      (len = 0 ∨ ∃ elems spare, y.1 = .slice elems spare ∧ len ≤ elems.length + spare.length) := by
  rcases open_ints Tryd.underlying22 Tryd.underlying5 (by kernel_rfl) hf with ⟨hcs, _⟩ | ⟨x, l, c, zs, hcs, _, hl, hm, hz, hx, hcell, hwz⟩
  · exact ⟨none, 0, 0, [], hcs, rfl, ⟨by simp, .inl rfl⟩, fun _ => rfl, Nat.le_refl _, Nat.zero_le _, .inl rfl⟩
  · have hz' : zs.length = c := by simpa using hz
    refine ⟨some x, l, c, (zs.take l).map Int.toNat, hcs, by simp; omega, bytesAt_of_ints hl hz' hcell hwz, by simp, hl, hm, .inr ⟨_, _, by rw [hx], ?_⟩⟩
    simp only [lits, List.length_map, List.length_take, List.length_drop]
    omega
/-- .. and that its reach is bounded: the j-th of what is weighed -/
theorem len_of_sized {H : Type} {ts : List TypeId} {ds : List (DataW H)} {j len : Nat} {d : DataW H} (h : (DataW.weightsEach Tryd.prog ts ds).all (· ≤ reachBytes) = true) (ht : ts[j]? = some 22) (hd : ds[j]? = some d)
    (hx : len = 0 ∨ ∃ elems spare, d = .slice elems spare ∧ len ≤ elems.length + spare.length) : len ≤ 140737488351232 := by
  rcases hx with h0 | ⟨elems, spare, rfl, hl⟩
  · omega
  · have h1 := sized_slice h ht hd Tryd.underlying22
    rw [bytes8] at h1
    simp only [reachBytes] at h1
    omega
/-- the weights of a struct's fields -/
theorem sized_struct {H : Type} {P : Program} {ts : List TypeId} {ds parts : List (DataW H)} {j : Nat} {t : TypeId} {fs : Array Field} (h : (DataW.weightsEach P ts ds).all (· ≤ reachBytes) = true) (ht : ts[j]? = some t) (hd : ds[j]? = some (.agg parts))
    (hu : P.underlying t = some (.struct fs)) : (DataW.weightsEach P (fs.toList.map (·.type)) parts).all (· ≤ reachBytes) = true := by
  rw [List.all_eq_true] at *
  intro n hn
  exact h n (DataW.weights_mem_each ht hd n (by simpa [DataW.weights, hu] using hn))

end Go.Proofs.YtcpaonjidioclaaDoor
