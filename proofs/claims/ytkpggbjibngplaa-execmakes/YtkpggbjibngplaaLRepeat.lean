/-
  THE WALKS OF bits.Mul, slices.Repeat.
-/
import Derived.Test.YtkpggbjibngplaaLInts
namespace Go.Proofs.Ytkpggbjibngplaa
open Go.RowKit Go.Sort

theorem and32 (m : Nat) (h : m < 4294967296) : bits .and .u64 (m : Int) 4294967295 = (m : Int) := by
  have := u64_and_nat m 4294967295 (by omega) (by omega)
  rw [show (4294967295 : Nat) = 2 ^ 32 - 1 from rfl, Nat.and_two_pow_sub_one_eq_mod, Nat.mod_eq_of_lt (by omega)] at this
  exact this
theorem mul64_any (w : World) (m : Nat) (hm : m ≤ 1000000) :
    Calls Try.prog 52 #[.int .u64 1, .int .u64 (m : Int)] w fun e w' => e = .returned (.tuple #[.int .u64 0, .int .u64 (m : Int)]) ∧ w' = w := by
  have h1 := and32 m (by omega)
  have h2 : bits .and .u64 1 4294967295 = 1 := by decide +kernel
  have h3 : bits .and .u64 0 4294967295 = 0 := by decide +kernel
  have h4 : (m : Int) / 4294967296 = 0 := by omega
  go_enter Try.func52, Try.ntmps52
  go_wp2
  go_ret2
  exact ⟨rfl, rfl⟩
theorem mul_any (w : World) (m : Nat) (hm : m ≤ 1000000) :
    Calls Try.prog 49 #[.int .u64 1, .int .u64 (m : Int)] w fun e w' => e = .returned (.tuple #[.int .u64 0, .int .u64 (m : Int)]) ∧ w' = w := by
  go_enter Try.func49, Try.ntmps49
  go_wp2_with fail
  refine (mul64_any _ m hm).mono ?_
  rintro e w1 ⟨rfl, rfl⟩
  go_wp2
  go_ret2
  exact ⟨rfl, rfl⟩

theorem copy_first (w : World) (ty : TypeId) (g b m dCap sCap : Nat) (h : RowI w g (half m 0)) (hc : w.cell? ⟨b, 0, none⟩ = some (.int .i64 (-1))) (hm : 1 ≤ m) :
    (Builtin.copy_ #[74, 74] ty #[.slice (some ⟨g, 0, none⟩) m dCap, .slice (some ⟨b, 0, none⟩) 1 sCap]).run Try.prog w = .ok (.int .i64 1) (w.setRow g (cellsI (half m 1))) := by
  have h1 := run_copy_row (P := Try.prog) w 74 74 ty 3 g 0 m dCap ⟨b, 0, none⟩ 1 sCap (cellsI (half m 0)) 3 [iv (-1)] Try.underlying74 sizeI h
    (by show 1 = min 1 m; omega)
    (fun j v hv => by
      match j, hv with
      | 0, hv => simp at hv; rw [← hv, addr_add]; exact hc
      | j + 1, hv => simp at hv)
    (by rw [size_cellsI, half_length m 0 (by omega)]; simpa using hm)
    (by intro v hv; simp at hv; rw [hv]; rfl)
  have e : ((cellsI (half m 0)).toList.take 0 ++ [iv (-1)] ++ (cellsI (half m 0)).toList.drop (0 + [iv (-1)].length)).toArray = cellsI (half m 1) := by
    have := half_copy m 0 1
    rw [show half m 1 = half m (0 + 1) from rfl, ← this]
    simp [cellsI]
  rw [h1, e]
  rfl

set_option maxHeartbeats 300000 in
theorem repeat_any (w : World) (b m : Nat) (hc : w.cell? ⟨b, 0, none⟩ = some (.int .i64 (-1))) (h1 : 1 ≤ m) (hm : m ≤ 1000000) :
    Calls Try.prog 44 #[.slice (some ⟨b, 0, none⟩) 1 1, .int .i64 (m : Int)] w fun e w' => e = .returned (.slice (some ⟨w.heap.size, 0, none⟩) m m) ∧ RowI w' w.heap.size (List.replicate m (-1)) ∧ Below w.heap.size w w' := by
  have hlt : b < w.heap.size := cell_lt hc
  have hmk := make_ints m (m : Int) rfl hm
  have hr0 : RowI (w.alloc (.cells (cellsI (List.replicate m 0)) 3)) w.heap.size (half m 0) := by have := RowI.new w (List.replicate m 0); simpa [half] using this
  have hcp := fun ty => copy_first (w.alloc (.cells (cellsI (List.replicate m 0)) 3)) ty w.heap.size b m m 1 hr0 (((Grew.refl w).alloc _).cell hc) h1
  have HR1 : Hid (RowI ((w.alloc (.cells (cellsI (List.replicate m 0)) 3)).setRow w.heap.size (cellsI (half m 1))) w.heap.size (half m 1)) := hr0.setRow _
  have HB1 : Hid (Below w.heap.size w ((w.alloc (.cells (cellsI (List.replicate m 0)) 3)).setRow w.heap.size (cellsI (half m 1)))) := ((Below.refl _ _).alloc (Nat.le_refl _) _).trans (below_setRow _ (Nat.le_refl _))
  have hk0 : ¬ ((m : Int) < 0) := by omega
  clear hr0
  go_enter Try.func44, Try.ntmps44
  go_wp2_with fail
  refine (mul_any _ m hm).mono ?_
  rintro e w1 ⟨rfl, rfl⟩
  go_wp2_with fail
  generalize (w1.alloc (.cells (cellsI (List.replicate m 0)) 3)).setRow w1.heap.size (cellsI (half m 1)) = W1 at *
  obtain ⟨G, hG⟩ : ∃ G, G = w1.heap.size := ⟨_, rfl⟩
  rw [← hG] at HR1 ⊢
  have HG : Hid (G = w1.heap.size) := hG
  clear hG hcp hmk
  go_loopw [8] (fun x wr => ∃ k : Nat, 1 ≤ k ∧ k ≤ m ∧ x = .int .i64 (k : Int) ∧ Hid (RowI wr G (half m k)) ∧ Hid (Below w1.heap.size w1 wr)) (fun x _ => m - (intOf x).toNat)
  case atStart => exact ⟨1, by omega, h1, rfl, HR1, HB1⟩
  case round =>
    clear HR1 HB1
    obtain ⟨k, hk1, hk, rfl, HR, HB⟩ := hrel
    by_cases hlt : k < m
    · have hne : k ≠ m := by omega
      have hlt' : (k : Int) < (m : Int) := by omega
      have HR2 : Hid (RowI (wr.drew.setRow G (cellsI (half m (k + min k (m - k))))) G (half m (k + min k (m - k)))) := RowI.setRow (w := wr.drew) HR.out _
      have HB2 : Hid (Below w1.heap.size w1 (wr.drew.setRow G (cellsI (half m (k + min k (m - k)))))) := HB.out.trans ((show Below w1.heap.size wr wr.drew from ⟨rfl, rfl, rfl, Nat.le_refl _, fun _ _ => rfl⟩).trans (below_setRow _ (by rw [HG.out]; exact Nat.le_refl _)))
      go_wp2_with fail
      have hne' : ¬ m = k := by omega
      have hcp := fun ty => copy_half wr.drew ty G m k (m - k) (m - k) m HR.out hlt rfl
      go_region
      all_goals go_wp2
      all_goals go_roundw
      all_goals first | exact ⟨k + min k (m - k), by omega, by omega, by go_num, HR2, HB2⟩ | (simp [intOf]; omega)
    · obtain rfl : k = m := by omega
      go_wp2
      go_ret
      refine ⟨by rw [HG.out]; rfl, ?_, HB.out⟩
      have := HR.out
      rwa [half_full, HG.out] at this

end Go.Proofs.Ytkpggbjibngplaa
