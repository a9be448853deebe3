/-
  THE WALK OF sameInts, where no lists of the document stand.
-/
import Derived.Test.YtjmlogljfboleabLSMath
namespace Go.Proofs.Ytjmlogljfboleab
open Go.RowKit Go.Sort

/-- numbers that are read -/
def IRead (W : World) (g : Nat) (L : List Int) : Prop := ∀ j, j < L.length → W.cell? ⟨g, j, none⟩ = some (.int .i64 (L.getD j 0))
theorem RowI.read {W : World} {g : Nat} {L : List Int} (h : RowI W g L) : IRead W g L := fun j hj => h.cell j hj
theorem IRead.kept {W W' : World} {g : Nat} {L : List Int} (h : IRead W g L) (hb : Below W.heap.size W W') : IRead W' g L := fun j hj => (hb.cell (p := ⟨g, j, none⟩) (cell_lt (h j hj))).trans (h j hj)
set_option maxHeartbeats 1000000 in
theorem sameInts_eq (w : World) (a1 a2 : Option Addr) (n c1 c2 : Nat) (L : List Int) (h1 : L = [] ∨ ∃ g, a1 = some ⟨g, 0, none⟩ ∧ IRead w g L) (h2 : L = [] ∨ ∃ g, a2 = some ⟨g, 0, none⟩ ∧ IRead w g L) (hn : n = L.length) (hm : n ≤ 1000000) :
    Calls Try.prog 27 #[.slice a1 n c1, .slice a2 n c2] w fun e w' => e = .returned (.bool true) ∧ ∃ q os, w' = grow (w.drewN q) os := by
  have H1 : Hid (L = [] ∨ ∃ g, a1 = some ⟨g, 0, none⟩ ∧ IRead w g L) := h1
  have H2 : Hid (L = [] ∨ ∃ g, a2 = some ⟨g, 0, none⟩ ∧ IRead w g L) := h2
  have HN : Hid (n = L.length) := hn
  clear h1 h2 hn
  go_enter Try.func27, Try.ntmps27
  go_wp2_with fail
  go_loopw [5] (fun x wr => ∃ k : Nat, k ≤ n ∧ x = .int .i64 (k : Int) ∧ Hid (Grew w wr)) (fun x _ => n - (intOf x).toNat)
  case atStart => exact ⟨0, by omega, rfl, Grew.refl _⟩
  case round =>
    obtain ⟨k, hk, rfl, HG⟩ := hrel
    by_cases hlt : k < n
    · have hne : L ≠ [] := by intro e; have := HN.out; rw [e] at this; simp at this; omega
      obtain ⟨g1, rfl, r1⟩ := H1.out.resolve_left hne
      obtain ⟨g2, rfl, r2⟩ := H2.out.resolve_left hne
      have d1 := (r1.kept HG.out.below) k (by have := HN.out; omega)
      have d2 := (r2.kept HG.out.below) k (by have := HN.out; omega)
      generalize L.getD k 0 = y at *
      clear r1 r2 hne
      go_wp2_with fail
      go_quiet (fail)
      go_wp2
      go_roundw
      case rel => exact ⟨k + 1, by omega, by go_num, HG.out.drewN nq⟩
      case measure => simp [intOf]; omega
    · obtain rfl : k = n := by omega
      go_wp2
      go_ret
      exact ⟨rfl, HG.out⟩

end Go.Proofs.Ytjmlogljfboleab
