import Derived.Test.YtglodmmmcdjgcaaJ05
import Derived.Test.YtglodmmmcdjgcaaJ01
/-
  THE WALK OF sound.
-/
namespace Go.Proofs.Ytglodmmmcdjgcaa.Kk
open Go.RowKit Go.Sort

theorem all_take (L : List K) (k : Nat) (h : (L.take k).all isKey = true) (hk : k < L.length) (h2 : isKey (kd L k) = true) : (L.take (k + 1)).all isKey = true := by
  rw [take_kd L k hk, List.all_append, h]; simp [h2]
theorem all_false {L : List K} {k : Nat} (hk : k < L.length) (h : isKey (kd L k) = false) : L.all isKey = false := by
  rw [List.all_eq_false]
  exact ⟨kd L k, kd_mem hk, by rw [h]; decide⟩


end Go.Proofs.Ytglodmmmcdjgcaa.Kk
/-
  THE WALK OF Compare.
-/
namespace Go.Proofs.Ytglodmmmcdjgcaa.Kk
open Go.RowKit Go.Sort

end Go.Proofs.Ytglodmmmcdjgcaa.Kk
/-
  THE WALK OF Rises.
-/
namespace Go.Proofs.Ytglodmmmcdjgcaa.Kk
open Go.RowKit Go.Sort

theorem rise_not_key {L : List K} {k : Nat} (hk : k < L.length) (h : isKey (kd L k) = false) : ¬ Rise L := fun hr => by
  have := hr.1 _ (kd_mem hk)
  rw [h] at this; cases this
theorem rise_pair {L : List K} {i j : Nat} (hij : i < j) (hj : j < L.length) (hr : Rise L) : lt (kd L i) (kd L j) = true := by
  have hi : i < L.length := by omega
  have h := (List.pairwise_iff_getElem.1 hr.2) i j hi hj hij
  have e1 := kd_get hi
  have e2 := kd_get hj
  rw [List.getElem?_eq_getElem hi] at e1
  rw [List.getElem?_eq_getElem hj] at e2
  rw [← Option.some.inj e1, ← Option.some.inj e2]
  exact h
theorem rise_next {L : List K} {k : Nat} (hk : k < L.length) (hr : Rise (L.take k)) (hi : isKey (kd L k) = true) (h : ∀ j, j + 1 = k → lt (kd L j) (kd L k) = true) : Rise (L.take (k + 1)) := by
  rw [take_kd L k hk]
  refine rise_snoc hr hi fun i y hil hy => ?_
  have hlen : (L.take k).length = k := by simp; omega
  rw [hlen] at hil
  have h1 := h i hil
  rw [List.getElem?_take, if_pos (by omega)] at hy
  rw [kd_get (by omega)] at hy
  rw [← Option.some.inj hy]; exact h1


end Go.Proofs.Ytglodmmmcdjgcaa.Kk
