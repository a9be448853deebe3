/-
  THE WALK OF same.
-/
import Derived.Test.YtcpaonjidioclaaDoorBytes
import Derived.Deep.QuietTactic
namespace Go.Proofs.YtcpaonjidioclaaDoor
open Go.RowKit

theorem list17_eq_of_getD {xs ys : List Nat} (hl : xs.length = ys.length) (h : ∀ j, j < xs.length → xs.getD j 0 = ys.getD j 0) : xs = ys := by
  apply List.ext_getElem hl
  intro i h1 h2
  have := h i h1
  simpa [List.getD_eq_getElem?_getD, List.getElem?_eq_getElem h1, List.getElem?_eq_getElem h2] using this

set_option maxHeartbeats 400000 in
theorem same17_cells (w : World) (b off ca d doff cb : Nat) (xs ys : List Nat) (hl : xs.length = ys.length) (hm : xs.length ≤ maxLen)
    (hca : ∀ j, j < xs.length → w.cell? ⟨b, off + j, none⟩ = some (.int .u8 ((xs.getD j 0 : Nat) : Int)))
    (hcb : ∀ j, j < ys.length → w.cell? ⟨d, doff + j, none⟩ = some (.int .u8 ((ys.getD j 0 : Nat) : Int))) :
    Calls Tryd.prog 8 #[.slice (some ⟨b, off, none⟩) xs.length ca, .slice (some ⟨d, doff, none⟩) xs.length cb] w fun e w' => e = .returned (.bool (decide (xs = ys))) ∧ ∃ n, w' = w.drewN n := by
  unfold maxLen at hm
  go_enter Tryd.func8, Tryd.ntmps8
  go_wp2
  go_loopw [5] (fun i wr => ∃ k n : Nat, k ≤ xs.length ∧ i = .int .i64 k ∧ Hid (∀ j, j < k → xs.getD j 0 = ys.getD j 0) ∧ wr = w.drewN n) (fun i _ => xs.length - (intOf i).toNat)
  case atStart => exact ⟨0, 0, Nat.zero_le _, rfl, fun j hj => by omega, rfl⟩
  case round =>
    obtain ⟨k, n, hk, rfl, hall, rfl⟩ := hrel
    by_cases hlt : k < xs.length
    · have h1 := hca k hlt
      have h2 := hcb k (by omega)
      clear hca hcb
      have HT : Hid (∀ j, j < k + 1 → xs.getD j 0 = ys.getD j 0) ∨ xs.getD k 0 ≠ ys.getD k 0 := by
        by_cases e : xs.getD k 0 = ys.getD k 0
        · refine .inl fun j hj => ?_
          by_cases hj' : j = k
          · rw [hj', e]
          · exact hall.out j (by omega)
        · exact .inr e
      have HF : Hid (xs.getD k 0 ≠ ys.getD k 0 → decide (xs = ys) = false) := fun h => by
        rw [decide_eq_false_iff_not]; intro e; exact h (by rw [e])
      clear hall
      by_cases e : xs.getD k 0 = ys.getD k 0
      · have hT : (((xs.getD k 0 : Nat) : Int) != ((ys.getD k 0 : Nat) : Int)) = false := by rw [e]; simp
        have HE : Hid (∀ j, j < k + 1 → xs.getD j 0 = ys.getD j 0) := by
          rcases HT with h | h
          · exact h
          · exact absurd e h
        clear HT HF e
        generalize xs.getD k 0 = x at *
        generalize ys.getD k 0 = y at *
        go_wp2
        go_quiet (fail)
        go_wp2
        go_roundw
        case rel => exact ⟨k + 1, _, by omega, by go_num, HE, rfl⟩
        case measure => simp [intOf]; omega
      · have hT : (((xs.getD k 0 : Nat) : Int) != ((ys.getD k 0 : Nat) : Int)) = true := by rw [bne_iff_ne]; omega
        have HE : Hid (decide (xs = ys) = false) := HF.out e
        clear HT HF e
        generalize xs.getD k 0 = x at *
        generalize ys.getD k 0 = y at *
        go_wp2
        go_quiet (fail)
        go_wp2
        go_ret
        exact ⟨by rw [HE.out]; rfl, _, World.drewN_drewN _ _ _⟩
    · have HE : Hid (decide (xs = ys) = true) := by
        rw [Hid, decide_eq_true_iff]
        exact list17_eq_of_getD hl fun j hj => hall.out j (by omega)
      clear hca hcb hall
      go_wp2
      go_ret
      exact ⟨by rw [HE.out]; rfl, _, rfl⟩

/-- same, whatever two slices of bytes. -/
theorem same17_any (w : World) (ao bo : Option Addr) (ca cb na nb : Nat) (xs ys : List Nat) (hna : na = xs.length) (hnb : nb = ys.length) (hx : BytesAt w ao xs) (hy : BytesAt w bo ys) (hm : xs.length ≤ maxLen) :
    Calls Tryd.prog 8 #[.slice ao na ca, .slice bo nb cb] w fun e w' => e = .returned (.bool (decide (xs = ys))) ∧ ∃ n, w' = w.drewN n := by
  subst hna hnb
  by_cases hl : xs.length = ys.length
  · by_cases h0 : xs = []
    · subst h0
      have h1 : ys = [] := List.eq_nil_of_length_eq_zero hl.symm
      subst h1
      go_enter Tryd.func8, Tryd.ntmps8
      go_wp2
      go_loop [5] (fun i => i = .int .i64 0) (fun i => 0 - (intOf i).toNat)
      case atStart => rfl
      case round =>
        subst hrel
        go_wp2
        go_ret
        exact ⟨rfl, 0, rfl⟩
    · obtain ⟨_, rfl | ⟨b, off, rfl, hc⟩⟩ := hx
      · exact absurd rfl h0
      · obtain ⟨_, rfl | ⟨d, doff, rfl, hd⟩⟩ := hy
        · exact absurd (List.eq_nil_of_length_eq_zero hl) h0
        · rw [← hl]
          exact same17_cells w b off ca d doff cb xs ys hl hm hc hd
  · have HE : Hid (decide (xs = ys) = false) := by
      rw [Hid, decide_eq_false_iff_not]; intro e; exact hl (by rw [e])
    have hT : ((xs.length : Int) != (ys.length : Int)) = true := by rw [bne_iff_ne]; omega
    clear hl hx hy
    go_enter Tryd.func8, Tryd.ntmps8
    go_wp2
    go_ret
    exact ⟨by rw [HE.out]; rfl, 0, rfl⟩

end Go.Proofs.YtcpaonjidioclaaDoor
