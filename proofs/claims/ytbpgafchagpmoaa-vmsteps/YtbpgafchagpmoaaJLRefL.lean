import Derived.Test.YtbpgafchagpmoaaXGood
import Derived.Laws.Bits128
import Derived.Test.YtbpgafchagpmoaaJLRefD
import Derived.Deep.QuietTactic
import Derived.BigQuiet
/-
  THE DOCUMENT's INSTRUCTIONS WITH TWO VALUES.
-/
namespace Go.Proofs.Ytbpgafchagpmoaa
open Go.RowKit Go.Sort

theorem rtruth_any (w : World) (b : Bool) : Calls Try.prog 62 #[.bool b] w fun e w' => e = .returned (.int .i64 (trN b)) ∧ w' = w := by
  cases b <;>
  (go_enter Try.func62, Try.ntmps62
   go_wp2
   go_ret
   exact ⟨rfl, rfl⟩)
theorem cmp22 (w : World) (x y : Int) : Calls Try.prog 75 #[.string ⟨#[101, 113]⟩, .int .i64 x, .int .i64 y] w fun e w' => e = .returned (.int .i64 (pairN 22 x y).1) ∧ w' = w := by
  go_enter Try.func75, Try.ntmps75
  go_wp2_with fail
  refine (rtruth_any w _).mono ?_
  rintro e w1 ⟨rfl, rfl⟩
  go_wp2
  go_ret
  exact ⟨rfl, rfl⟩
theorem cmp23 (w : World) (x y : Int) : Calls Try.prog 75 #[.string ⟨#[110, 101]⟩, .int .i64 x, .int .i64 y] w fun e w' => e = .returned (.int .i64 (pairN 23 x y).1) ∧ w' = w := by
  go_enter Try.func75, Try.ntmps75
  go_wp2_with fail
  refine (rtruth_any w _).mono ?_
  rintro e w1 ⟨rfl, rfl⟩
  go_wp2
  go_ret
  exact ⟨rfl, rfl⟩
theorem cmp24 (w : World) (x y : Int) : Calls Try.prog 75 #[.string ⟨#[108, 116]⟩, .int .i64 x, .int .i64 y] w fun e w' => e = .returned (.int .i64 (pairN 24 x y).1) ∧ w' = w := by
  go_enter Try.func75, Try.ntmps75
  go_wp2_with fail
  refine (rtruth_any w _).mono ?_
  rintro e w1 ⟨rfl, rfl⟩
  go_wp2
  go_ret
  exact ⟨rfl, rfl⟩
theorem cmp25 (w : World) (x y : Int) : Calls Try.prog 75 #[.string ⟨#[108, 101]⟩, .int .i64 x, .int .i64 y] w fun e w' => e = .returned (.int .i64 (pairN 25 x y).1) ∧ w' = w := by
  go_enter Try.func75, Try.ntmps75
  go_wp2_with fail
  refine (rtruth_any w _).mono ?_
  rintro e w1 ⟨rfl, rfl⟩
  go_wp2
  go_ret
  exact ⟨rfl, rfl⟩
theorem cmp26 (w : World) (x y : Int) : Calls Try.prog 75 #[.string ⟨#[103, 116]⟩, .int .i64 x, .int .i64 y] w fun e w' => e = .returned (.int .i64 (pairN 26 x y).1) ∧ w' = w := by
  go_enter Try.func75, Try.ntmps75
  go_wp2_with fail
  refine (rtruth_any w _).mono ?_
  rintro e w1 ⟨rfl, rfl⟩
  go_wp2
  go_ret
  exact ⟨rfl, rfl⟩
theorem cmp27 (w : World) (x y : Int) : Calls Try.prog 75 #[.string ⟨#[103, 101]⟩, .int .i64 x, .int .i64 y] w fun e w' => e = .returned (.int .i64 (pairN 27 x y).1) ∧ w' = w := by
  go_enter Try.func75, Try.ntmps75
  go_wp2_with fail
  refine (rtruth_any w _).mono ?_
  rintro e w1 ⟨rfl, rfl⟩
  go_wp2
  go_ret
  exact ⟨rfl, rfl⟩
theorem cmp28 (w : World) (x y : Int) : Calls Try.prog 75 #[.string ⟨#[109, 105, 110]⟩, .int .i64 x, .int .i64 y] w fun e w' => e = .returned (.int .i64 (pairN 28 x y).1) ∧ w' = w := by
  by_cases h : y < x
  · have HE : Hid ((pairN 28 x y).1 = y) := by show min x y = y; omega
    go_enter Try.func75, Try.ntmps75
    go_wp2
    go_ret
    exact ⟨by rw [HE.out]; rfl, rfl⟩
  · have HE : Hid ((pairN 28 x y).1 = x) := by show min x y = x; omega
    go_enter Try.func75, Try.ntmps75
    go_wp2
    go_ret
    exact ⟨by rw [HE.out]; rfl, rfl⟩
theorem cmp29 (w : World) (x y : Int) : Calls Try.prog 75 #[.string ⟨#[109, 97, 120]⟩, .int .i64 x, .int .i64 y] w fun e w' => e = .returned (.int .i64 (pairN 29 x y).1) ∧ w' = w := by
  by_cases h : x < y
  · have HE : Hid ((pairN 29 x y).1 = y) := by show max x y = y; omega
    go_enter Try.func75, Try.ntmps75
    go_wp2
    go_ret
    exact ⟨by rw [HE.out]; rfl, rfl⟩
  · have HE : Hid ((pairN 29 x y).1 = x) := by show max x y = x; omega
    go_enter Try.func75, Try.ntmps75
    go_wp2
    go_ret
    exact ⟨by rw [HE.out]; rfl, rfl⟩
end Go.Proofs.Ytbpgafchagpmoaa
/-
  THE DOCUMENT's shift.
-/
namespace Go.Proofs.Ytbpgafchagpmoaa
open Go.RowKit Go.Sort

theorem i64_and1 (n : Int) : bits .and .i64 n 1 = n % 2 := by
  have h1 : (BitVec.ofInt 64 n &&& BitVec.ofInt 64 1).toNat = (BitVec.ofInt 64 n).toNat % 2 := by
    rw [BitVec.toNat_and]
    have : (BitVec.ofInt 64 1).toNat = 2 ^ 1 - 1 := by decide
    rw [this, Nat.and_two_pow_sub_one_eq_mod]
  have h2 : (BitVec.ofInt 64 n).toNat = (n % 18446744073709551616).toNat := by simp [BitVec.toNat_ofInt]
  show IntKind.wrap .i64 ((BitVec.ofInt 64 n &&& BitVec.ofInt 64 1).toNat : Int) = n % 2
  rw [h1, h2]
  simp only [IntKind.wrap, IntKind.bits, IntKind.signed]
  simp
  omega
theorem wrap_two (t : Int) : wrap64 (wrap64 t * 2) = wrap64 (t * 2) := by unfold wrap64; omega
theorem wrap_in {x : Int} (h : In64 x) : wrap64 x = x := by unfold wrap64; unfold In64 at h; omega
theorem half_floor (x : Int) : (x - x % 2).tdiv 2 = x / 2 := by
  have h : (x - x % 2) = 2 * (x / 2) := by omega
  rw [h, Int.mul_tdiv_cancel_left _ (by decide)]
theorem half_in {x : Int} (h : In64 x) : In64 (x / 2) := by unfold In64 at *; omega
def shlK (x : Int) (k : Nat) : Int := wrap64 (x * 2 ^ k)
def shrK (x : Int) (k : Nat) : Int := x / 2 ^ k
theorem shl_zero {x : Int} (h : In64 x) : shlK x 0 = x := by unfold shlK; rw [Int.pow_zero, Int.mul_one, wrap_in h]
theorem shl_step (x : Int) (k : Nat) : wrap64 (shlK x k * 2) = shlK x (k + 1) := by
  unfold shlK; rw [wrap_two, Int.pow_succ, Int.mul_assoc]
theorem shr_zero (x : Int) : shrK x 0 = x := by simp [shrK]
theorem shr_step (x : Int) (k : Nat) : shrK x k / 2 = shrK x (k + 1) := by
  unfold shrK; rw [Int.pow_succ, Int.ediv_ediv_of_nonneg (by exact Int.pow_nonneg (by decide))]
theorem shr_in {x : Int} (h : In64 x) : ∀ k, In64 (shrK x k)
  | 0 => by rw [shr_zero]; exact h
  | k + 1 => by rw [← shr_step]; exact half_in (shr_in h k)
theorem wrap_in64 (t : Int) : In64 (wrap64 t) := by unfold wrap64 In64; omega
theorem u64_in {y : Int} (h0 : 0 ≤ y) (h : In64 y) : IntKind.u64.wrap y = y := by
  unfold In64 at h
  simp only [IntKind.wrap, IntKind.bits, IntKind.signed]
  simp
  omega
set_option maxHeartbeats 1000000 in
theorem shift_left (w : World) (x y : Int) (hx : In64 x) (h0 : 0 ≤ y) (hy : In64 y) : Calls Try.prog 74 #[.bool true, .int .i64 x, .int .i64 y] w fun e w' => e = .returned (.int .i64 (shlK x (min y.toNat 64))) ∧ w' = w := by
  obtain ⟨n, rfl⟩ := Int.eq_ofNat_of_zero_le h0
  have HX : Hid (In64 x) := hx
  have hn : (n : Int) ≤ 9223372036854775807 := hy.2
  rw [Int.toNat_natCast]
  clear hx h0 hy
  go_enter Try.func74, Try.ntmps74
  go_wp2_with fail
  go_loopw [1, 7] (fun x1 x7 wr => ∃ k : Nat, k ≤ min n 64 ∧ x1 = .int .i64 (shlK x k) ∧ x7 = .int .i64 (k : Int) ∧ Hid (wr = w)) (fun _ x7 _ => 64 - (intOf x7).toNat)
  case atStart => exact ⟨0, by omega, by rw [shl_zero HX.out], rfl, rfl⟩
  case round =>
    obtain ⟨k, hk, rfl, rfl, hw⟩ := hrel
    have hw' := hw.out
    subst hw'
    by_cases hlt : k < n
    · by_cases h64 : k < 64
      · have hs := shl_step x k
        have hkn : (k : Int) < (n : Int) := by omega
        have hk64 : (k : Int) < 64 := by omega
        generalize shlK x k = t at *
        go_wp2
        go_roundw
        case rel => exact ⟨k + 1, by omega, by rw [hs], by go_num, trivial⟩
        case measure => simp [intOf]; omega
      · have hk64 : ¬ (k : Int) < 64 := by omega
        have hkn : (k : Int) < (n : Int) := by omega
        have HE : Hid (min n 64 = k) := by show min n 64 = k; omega
        go_wp2
        go_ret
        exact ⟨by rw [HE.out]; rfl, rfl⟩
    · have hkn : ¬ (k : Int) < (n : Int) := by omega
      have HE : Hid (min n 64 = k) := by show min n 64 = k; omega
      go_wp2
      go_ret
      exact ⟨by rw [HE.out]; rfl, rfl⟩
set_option maxHeartbeats 1000000 in
theorem shift_right (w : World) (x y : Int) (hx : In64 x) (h0 : 0 ≤ y) (hy : In64 y) : Calls Try.prog 74 #[.bool false, .int .i64 x, .int .i64 y] w fun e w' => e = .returned (.int .i64 (shrK x (min y.toNat 64))) ∧ w' = w := by
  obtain ⟨n, rfl⟩ := Int.eq_ofNat_of_zero_le h0
  have HX : Hid (In64 x) := hx
  have hn : (n : Int) ≤ 9223372036854775807 := hy.2
  rw [Int.toNat_natCast]
  clear hx h0 hy
  go_enter Try.func74, Try.ntmps74
  go_wp2_with fail
  go_loopw [1, 7] (fun x1 x7 wr => ∃ k : Nat, k ≤ min n 64 ∧ x1 = .int .i64 (shrK x k) ∧ x7 = .int .i64 (k : Int) ∧ Hid (wr = w)) (fun _ x7 _ => 64 - (intOf x7).toNat)
  case atStart => exact ⟨0, by omega, by rw [shr_zero], rfl, rfl⟩
  case round =>
    obtain ⟨k, hk, rfl, rfl, hw⟩ := hrel
    have hw' := hw.out
    subst hw'
    by_cases hlt : k < n
    · by_cases h64 : k < 64
      · have hs := shr_step x k
        have hin := shr_in HX.out k
        have hkn : (k : Int) < (n : Int) := by omega
        have hk64 : (k : Int) < 64 := by omega
        generalize shrK x k = t at *
        have HS : Hid (t / 2 = shrK x (k + 1)) := hs
        have hb := i64_and1 t
        unfold In64 at hin
        by_cases ht : t < 0
        · clear hs
          go_wp2
          go_roundw
          case rel => exact ⟨k + 1, by omega, by rw [half_floor, HS.out], by go_num, trivial⟩
          case measure => simp [intOf]; omega
        · have h2 : t.tdiv 2 = t / 2 := Int.tdiv_eq_ediv_of_nonneg (by omega)
          have H2 : Hid (t.tdiv 2 = t / 2) := h2
          clear hs h2
          go_wp2_with fail
          go_roundw
          case rel => exact ⟨k + 1, by omega, by first | rw [H2.out, HS.out] | rw [HS.out], by go_num, trivial⟩
          case measure => simp [intOf]; omega
      · have hk64 : ¬ (k : Int) < 64 := by omega
        have hkn : (k : Int) < (n : Int) := by omega
        have HE : Hid (min n 64 = k) := by show min n 64 = k; omega
        go_wp2
        go_ret
        exact ⟨by rw [HE.out]; rfl, rfl⟩
    · have hkn : ¬ (k : Int) < (n : Int) := by omega
      have HE : Hid (min n 64 = k) := by show min n 64 = k; omega
      go_wp2
      go_ret
      exact ⟨by rw [HE.out]; rfl, rfl⟩

abbrev TwoOK (op : Int) (nm : Value) : Prop := ∀ (w : World) (x y : Int), In64 x → In64 y → Calls Try.prog 64 #[nm, .int .i64 x, .int .i64 y] w fun e w' => e = pairRet op x y ∧ w' = w
set_option maxHeartbeats 1000000 in
theorem two10 : TwoOK 10 (.string ⟨#[97, 100, 100]⟩) := by
  intro w x y hx hy
  clear hx hy
  go_enter Try.func64, Try.ntmps64
  go_wp2
  go_ret2
  exact ⟨rfl, rfl⟩
set_option maxHeartbeats 1000000 in
theorem two11 : TwoOK 11 (.string ⟨#[115, 117, 98]⟩) := by
  intro w x y hx hy
  clear hx hy
  go_enter Try.func64, Try.ntmps64
  go_wp2
  go_ret2
  exact ⟨rfl, rfl⟩
set_option maxHeartbeats 1000000 in
theorem two12 : TwoOK 12 (.string ⟨#[109, 117, 108]⟩) := by
  intro w x y hx hy
  clear hx hy
  go_enter Try.func64, Try.ntmps64
  go_wp2
  go_ret2
  exact ⟨rfl, rfl⟩
set_option maxHeartbeats 1000000 in
theorem two13 : TwoOK 13 (.string ⟨#[100, 105, 118]⟩) := by
  intro w x y hx hy
  by_cases h0 : y = 0
  · subst h0
    clear hx hy
    go_enter Try.func64, Try.ntmps64
    go_wp2
    go_ret2
    exact ⟨rfl, rfl⟩
  · have h0' : (y == 0) = false := by simpa using h0
    by_cases h1 : y = -1
    · subst h1
      have HE : Hid (pairN 13 x (-1) = (wrap64 (-x), 0)) := by
        show pairN 13 x (-1) = _
        simp [pairN]
      clear hx hy
      go_enter Try.func64, Try.ntmps64
      go_wp2_with fail
      refine (rtruth_any w _).mono ?_
      rintro e w1 ⟨rfl, rfl⟩
      go_wp2
      go_ret2
      exact ⟨by rw [pairRet, HE.out]; first | rfl | (show Ending.returned _ = Ending.returned _; congr 4; unfold wrap64; simp [trN]; try omega), rfl⟩
    · have h1' : (y == -1) = false := by simpa using h1
      have HE : Hid (pairN 13 x y = (wrap64 (x.tdiv y), 0)) := by show pairN 13 x y = _; simp [pairN, h0]
      clear hx hy
      go_enter Try.func64, Try.ntmps64
      go_wp2
      go_ret2
      exact ⟨by rw [pairRet, HE.out]; rfl, rfl⟩
set_option maxHeartbeats 1000000 in
theorem two14 : TwoOK 14 (.string ⟨#[109, 111, 100]⟩) := by
  intro w x y hx hy
  by_cases h0 : y = 0
  · subst h0
    clear hx hy
    go_enter Try.func64, Try.ntmps64
    go_wp2
    go_ret2
    exact ⟨rfl, rfl⟩
  · have h0' : (y == 0) = false := by simpa using h0
    by_cases h1 : y = -1
    · subst h1
      have HE : Hid (pairN 14 x (-1) = (0, 0)) := by
        show pairN 14 x (-1) = _
        simp [pairN]
      clear hx hy
      go_enter Try.func64, Try.ntmps64
      go_wp2_with fail
      refine (rtruth_any w _).mono ?_
      rintro e w1 ⟨rfl, rfl⟩
      go_wp2
      go_ret2
      exact ⟨by rw [pairRet, HE.out]; first | rfl | (show Ending.returned _ = Ending.returned _; congr 4; unfold wrap64; simp [trN]; try omega), rfl⟩
    · have h1' : (y == -1) = false := by simpa using h1
      have HE : Hid (pairN 14 x y = (x.tmod y, 0)) := by show pairN 14 x y = _; simp [pairN, h0]
      clear hx hy
      go_enter Try.func64, Try.ntmps64
      go_wp2
      go_ret2
      exact ⟨by rw [pairRet, HE.out]; rfl, rfl⟩
set_option maxHeartbeats 1000000 in
theorem two15 : TwoOK 15 (.string ⟨#[97, 110, 100]⟩) := by
  intro w x y hx hy
  clear hx hy
  go_enter Try.func64, Try.ntmps64
  go_wp2
  go_ret2
  exact ⟨rfl, rfl⟩
set_option maxHeartbeats 1000000 in
theorem two16 : TwoOK 16 (.string ⟨#[111, 114]⟩) := by
  intro w x y hx hy
  clear hx hy
  go_enter Try.func64, Try.ntmps64
  go_wp2
  go_ret2
  exact ⟨rfl, rfl⟩
set_option maxHeartbeats 1000000 in
theorem two17 : TwoOK 17 (.string ⟨#[120, 111, 114]⟩) := by
  intro w x y hx hy
  clear hx hy
  go_enter Try.func64, Try.ntmps64
  go_wp2
  go_ret2
  exact ⟨rfl, rfl⟩
set_option maxHeartbeats 1000000 in
theorem two18 : TwoOK 18 (.string ⟨#[115, 104, 108]⟩) := by
  intro w x y hx hy
  by_cases h0 : y < 0
  · have HE : Hid (pairN 18 x y = (0, 202)) := by show pairN 18 x y = _; simp [pairN, h0]
    clear hx hy
    go_enter Try.func64, Try.ntmps64
    go_wp2
    go_ret2
    exact ⟨by rw [pairRet, HE.out]; rfl, rfl⟩
  · have HE : Hid (pairN 18 x y = (shlK x (min y.toNat 64), 0)) := by
      show pairN 18 x y = _
      simp only [pairN, if_neg h0]
      rw [u64_in (by omega) hy]
      rfl
    have HC := shift_left w x y hx (by omega) hy
    clear hx hy
    go_enter Try.func64, Try.ntmps64
    go_wp2_with fail
    refine HC.mono ?_
    rintro e w1 ⟨rfl, rfl⟩
    go_wp2
    go_ret2
    exact ⟨by rw [pairRet, HE.out]; rfl, rfl⟩
set_option maxHeartbeats 1000000 in
theorem two19 : TwoOK 19 (.string ⟨#[115, 104, 114]⟩) := by
  intro w x y hx hy
  by_cases h0 : y < 0
  · have HE : Hid (pairN 19 x y = (0, 202)) := by show pairN 19 x y = _; simp [pairN, h0]
    clear hx hy
    go_enter Try.func64, Try.ntmps64
    go_wp2
    go_ret2
    exact ⟨by rw [pairRet, HE.out]; rfl, rfl⟩
  · have HE : Hid (pairN 19 x y = (shrK x (min y.toNat 64), 0)) := by
      show pairN 19 x y = _
      simp only [pairN, if_neg h0]
      rw [u64_in (by omega) hy]
      rfl
    have HC := shift_right w x y hx (by omega) hy
    clear hx hy
    go_enter Try.func64, Try.ntmps64
    go_wp2_with fail
    refine HC.mono ?_
    rintro e w1 ⟨rfl, rfl⟩
    go_wp2
    go_ret2
    exact ⟨by rw [pairRet, HE.out]; rfl, rfl⟩
set_option maxHeartbeats 1000000 in
theorem two22 : TwoOK 22 (.string ⟨#[101, 113]⟩) := by
  intro w x y hx hy
  clear hx hy
  go_enter Try.func64, Try.ntmps64
  go_wp2_with fail
  have HC := cmp22 w x y
  obtain ⟨z, hz⟩ : ∃ z, z = (pairN 22 x y).1 := ⟨_, rfl⟩
  rw [← hz] at HC
  have HZ : Hid (pairRet 22 x y = .returned (.tuple #[.int .i64 z, .int .i64 0])) := by rw [hz]; rfl
  clear hz
  refine HC.mono ?_
  rintro e w1 ⟨rfl, rfl⟩
  go_wp2
  go_ret2
  exact ⟨by rw [HZ.out]; rfl, rfl⟩
set_option maxHeartbeats 1000000 in
theorem two23 : TwoOK 23 (.string ⟨#[110, 101]⟩) := by
  intro w x y hx hy
  clear hx hy
  go_enter Try.func64, Try.ntmps64
  go_wp2_with fail
  have HC := cmp23 w x y
  obtain ⟨z, hz⟩ : ∃ z, z = (pairN 23 x y).1 := ⟨_, rfl⟩
  rw [← hz] at HC
  have HZ : Hid (pairRet 23 x y = .returned (.tuple #[.int .i64 z, .int .i64 0])) := by rw [hz]; rfl
  clear hz
  refine HC.mono ?_
  rintro e w1 ⟨rfl, rfl⟩
  go_wp2
  go_ret2
  exact ⟨by rw [HZ.out]; rfl, rfl⟩
set_option maxHeartbeats 1000000 in
theorem two24 : TwoOK 24 (.string ⟨#[108, 116]⟩) := by
  intro w x y hx hy
  clear hx hy
  go_enter Try.func64, Try.ntmps64
  go_wp2_with fail
  have HC := cmp24 w x y
  obtain ⟨z, hz⟩ : ∃ z, z = (pairN 24 x y).1 := ⟨_, rfl⟩
  rw [← hz] at HC
  have HZ : Hid (pairRet 24 x y = .returned (.tuple #[.int .i64 z, .int .i64 0])) := by rw [hz]; rfl
  clear hz
  refine HC.mono ?_
  rintro e w1 ⟨rfl, rfl⟩
  go_wp2
  go_ret2
  exact ⟨by rw [HZ.out]; rfl, rfl⟩
set_option maxHeartbeats 1000000 in
theorem two25 : TwoOK 25 (.string ⟨#[108, 101]⟩) := by
  intro w x y hx hy
  clear hx hy
  go_enter Try.func64, Try.ntmps64
  go_wp2_with fail
  have HC := cmp25 w x y
  obtain ⟨z, hz⟩ : ∃ z, z = (pairN 25 x y).1 := ⟨_, rfl⟩
  rw [← hz] at HC
  have HZ : Hid (pairRet 25 x y = .returned (.tuple #[.int .i64 z, .int .i64 0])) := by rw [hz]; rfl
  clear hz
  refine HC.mono ?_
  rintro e w1 ⟨rfl, rfl⟩
  go_wp2
  go_ret2
  exact ⟨by rw [HZ.out]; rfl, rfl⟩
set_option maxHeartbeats 1000000 in
theorem two26 : TwoOK 26 (.string ⟨#[103, 116]⟩) := by
  intro w x y hx hy
  clear hx hy
  go_enter Try.func64, Try.ntmps64
  go_wp2_with fail
  have HC := cmp26 w x y
  obtain ⟨z, hz⟩ : ∃ z, z = (pairN 26 x y).1 := ⟨_, rfl⟩
  rw [← hz] at HC
  have HZ : Hid (pairRet 26 x y = .returned (.tuple #[.int .i64 z, .int .i64 0])) := by rw [hz]; rfl
  clear hz
  refine HC.mono ?_
  rintro e w1 ⟨rfl, rfl⟩
  go_wp2
  go_ret2
  exact ⟨by rw [HZ.out]; rfl, rfl⟩
set_option maxHeartbeats 1000000 in
theorem two27 : TwoOK 27 (.string ⟨#[103, 101]⟩) := by
  intro w x y hx hy
  clear hx hy
  go_enter Try.func64, Try.ntmps64
  go_wp2_with fail
  have HC := cmp27 w x y
  obtain ⟨z, hz⟩ : ∃ z, z = (pairN 27 x y).1 := ⟨_, rfl⟩
  rw [← hz] at HC
  have HZ : Hid (pairRet 27 x y = .returned (.tuple #[.int .i64 z, .int .i64 0])) := by rw [hz]; rfl
  clear hz
  refine HC.mono ?_
  rintro e w1 ⟨rfl, rfl⟩
  go_wp2
  go_ret2
  exact ⟨by rw [HZ.out]; rfl, rfl⟩
set_option maxHeartbeats 1000000 in
theorem two28 : TwoOK 28 (.string ⟨#[109, 105, 110]⟩) := by
  intro w x y hx hy
  clear hx hy
  go_enter Try.func64, Try.ntmps64
  go_wp2_with fail
  have HC := cmp28 w x y
  obtain ⟨z, hz⟩ : ∃ z, z = (pairN 28 x y).1 := ⟨_, rfl⟩
  rw [← hz] at HC
  have HZ : Hid (pairRet 28 x y = .returned (.tuple #[.int .i64 z, .int .i64 0])) := by rw [hz]; rfl
  clear hz
  refine HC.mono ?_
  rintro e w1 ⟨rfl, rfl⟩
  go_wp2
  go_ret2
  exact ⟨by rw [HZ.out]; rfl, rfl⟩
set_option maxHeartbeats 1000000 in
theorem two29 : TwoOK 29 (.string ⟨#[109, 97, 120]⟩) := by
  intro w x y hx hy
  clear hx hy
  go_enter Try.func64, Try.ntmps64
  go_wp2_with fail
  have HC := cmp29 w x y
  obtain ⟨z, hz⟩ : ∃ z, z = (pairN 29 x y).1 := ⟨_, rfl⟩
  rw [← hz] at HC
  have HZ : Hid (pairRet 29 x y = .returned (.tuple #[.int .i64 z, .int .i64 0])) := by rw [hz]; rfl
  clear hz
  refine HC.mono ?_
  rintro e w1 ⟨rfl, rfl⟩
  go_wp2
  go_ret2
  exact ⟨by rw [HZ.out]; rfl, rfl⟩
end Go.Proofs.Ytbpgafchagpmoaa
/-
  THE WALK OF THE DOCUMENT's Longest.
-/
namespace Go.Proofs.Ytbpgafchagpmoaa
open Go.RowKit Go.Sort

theorem below_drewK (B : Nat) (W : World) (q : Nat) : Below B W (W.drewN q) := ⟨rfl, rfl, rfl, Nat.le_refl _, fun _ _ => rfl⟩


end Go.Proofs.Ytbpgafchagpmoaa
