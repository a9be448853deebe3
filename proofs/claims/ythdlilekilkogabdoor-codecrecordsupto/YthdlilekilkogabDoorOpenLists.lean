/-
  FROM THE READING OF A [][]byte ARGUMENT TO ITS LISTS.
-/
import Derived.Test.YthdlilekilkogabDoorOpen
import Derived.Test.YthdlilekilkogabDoorLists
import Derived.Test.YthdlilekilkogabDoorRecRead
import Derived.Test.YthdlilekilkogabDoorBulk
import Derived.Deep.Slices
namespace Go.Proofs.YthdlilekilkogabDoor
open Go.ChangeShapes Go.WideShapes Go.ChangeAt Go.RowKit

theorem total_le {H : Type} (Z : Nat → List Nat) (D : Nat → DataW H) : ∀ (xs : List Nat), (∀ x ∈ xs, (Z x).length + 1 ≤ Rows.uptoBulk (D x)) → Rec.total (xs.map Z) ≤ Rows.uptoBulkAll (xs.map D)
  | [], _ => by simp [Rec.total, Rows.uptoBulkAll]
  | x :: xs, h => by
    have h1 := h x (by simp)
    have h2 := total_le Z D xs (fun y hy => h y (by simp [hy]))
    simp only [List.map_cons, Rec.total, Rows.uptoBulkAll]
    omega
/-- what the reading of a slice of slices of bytes gives -/
theorem lists_of_trod {H : Type} {enc : TypeId × Value → H} {W : World} {fuel : Nat} {cs : List Value} {y : DataW H × List MemPlace}
    (hf : DataW.trod enc Tryd.prog W 0 (fun _ => true) true fuel 29 cs = some y) :
    ∃ (lo : Option Addr) (cap : Nat) (ls : List (List Nat)), cs = [.slice lo ls.length cap] ∧ (ls = [] ∨ ∃ b off, lo = some ⟨b, off, none⟩ ∧ ListsAt W b off ls) ∧ Rec.total ls ≤ Rows.uptoBulk y.1 := by
  rcases Deep.open_slice1 Tryd.underlying29 (by kernel_rfl) hf with ⟨rfl, rfl⟩ | ⟨a, len, cap, m, n, V, D, Pl, rfl, hb, hl, hm, hmm, rfl, hx⟩
  · exact ⟨none, 0, [], rfl, .inl rfl, by simp [Rec.total]⟩
  · have hle : len ≤ m := by rw [hmm]; simpa using hl
    obtain ⟨Z, hZ⟩ := Deep.choose_lt (α := List Nat) (n := len) (p := fun i zs => ∃ a' c', V i = .slice a' zs.length c' ∧ BytesAt W a' zs ∧ (a' = none → c' = 0) ∧ zs.length + 1 ≤ Rows.uptoBulk (D i)) (fun i hi => by
      obtain ⟨_, h2⟩ := hx i (by omega)
      obtain ⟨a', len', cap', zs, hcs, hn, hba, hnil, _, _, hxx⟩ := bytes_of_trod h2
      simp only [List.cons.injEq, and_true] at hcs
      subst hn
      exact ⟨zs, a', cap', hcs, hba, hnil, bulk_bytes hxx⟩)
    refine ⟨some a, cap, (List.range len).map Z, by simp, ?_, ?_⟩
    · by_cases h0 : len = 0
      · left; subst h0; rfl
      · right
        obtain ⟨h1, _⟩ := hx 0 (by omega)
        obtain ⟨b, off, spot⟩ := a
        have hspot : spot = none := by simpa [Addr.add] using World.cell?_spot h1
        subst hspot
        refine ⟨b, off, rfl, fun i hi => ?_⟩
        have hi' : i < len := by simpa using hi
        obtain ⟨a', c', hv, hba, hnil, _⟩ := hZ i hi'
        have hc := (hx i (by omega)).1
        rw [Go.WideShapes.add_plain, hv] at hc
        have e : ((List.range len).map Z).getD i [] = Z i := by simp [List.getD_eq_getElem?_getD, hi']
        rw [e]
        exact ⟨a', c', hc, hba, hnil⟩
    · have h1 := total_le Z D (List.range len) (fun x hx' => by obtain ⟨_, _, _, _, _, h⟩ := hZ x (by simpa using hx'); exact h)
      simp only [Rows.uptoBulk]
      omega

end Go.Proofs.YthdlilekilkogabDoor
