/-
  FROM THE READING OF A []byte ARGUMENT TO ITS BYTES.
-/
import Derived.Test.YthdlilekilkogabDoorMem
import Derived.SizedLaws
namespace Go.Proofs.YthdlilekilkogabDoor
open Go.ChangeShapes Go.WideShapes Go.ChangeAt Go.RowKit

theorem bytesAt_of_ints {W : World} {a : Addr} {len cap : Nat} {zs : List Int} (hl : len ≤ cap) (hz : zs.length = cap)
    (hcell : ∀ i, i < zs.length → W.cell? (a.add i) = some (.int .u8 (zs.getD i 0))) (hwf : ∀ n ∈ zs, (Lit.int .u8 n).wf = true) :
    BytesAt W (some a) ((zs.take len).map Int.toNat) := by
  have hb : ∀ n ∈ zs, 0 ≤ n ∧ n ≤ 255 := fun n hn => bounds_u8 (hwf n hn)
  refine ⟨?_, ?_⟩
  · intro z hz'
    obtain ⟨n, hn, rfl⟩ := List.mem_map.1 hz'
    have := hb n (List.mem_of_mem_take hn)
    omega
  · by_cases h0 : zs = []
    · left; simp [h0]
    · right
      obtain ⟨b, off, rfl, hc⟩ := ints_at hcell (by cases zs with | nil => exact absurd rfl h0 | cons z zs => simp)
      refine ⟨b, off, rfl, fun j hj => ?_⟩
      have hj' : j < len := by simp at hj; omega
      rw [hc j (by omega)]
      have hjz : j < zs.length := by omega
      have := hb zs[j] (List.getElem_mem hjz)
      simp [List.getD_eq_getElem?_getD, hj', List.getElem?_eq_getElem hjz]
      omega

end Go.Proofs.YthdlilekilkogabDoor
