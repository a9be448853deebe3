/-
  THE WALK OF codec.scan.
-/
import Derived.Test.YtciogmenoighoaaVar
import Derived.Test.YtciogmenoighoaaRec
namespace Go.Proofs.Ytciogmenoighoaa
open Go.RowKit

theorem u8_and127 (c : Nat) (hc : c < 256) : bits .and .u8 (c : Int) 127 = ((c % 128 : Nat) : Int) := by
  have h := u8_and_nat c 127 hc (by omega)
  rw [show (127 : Nat) = 2 ^ 7 - 1 from rfl, Nat.and_two_pow_sub_one_eq_mod] at h
  exact h
theorem or_low (acc c i : Nat) (ha : acc < 2 ^ (7 * i)) (hi : i ≤ 9) (h9 : i = 9 → c % 128 ≤ 1) : bits .or .u64 (acc : Int) (IntKind.u64.wrap ((c : Int) % 128 * 2 ^ (7 * i))) = ((acc + c % 128 * 2 ^ (7 * i) : Nat) : Int) := by
  have hl : c % 128 * 2 ^ (7 * i) < 18446744073709551616 := by
    by_cases e : i = 9
    · subst e
      have := h9 rfl
      have : c % 128 * 2 ^ (7 * 9) ≤ 1 * 2 ^ (7 * 9) := Nat.mul_le_mul_right _ this
      omega
    · have h1 : 2 ^ (7 * i) ≤ 2 ^ 56 := Nat.pow_le_pow_right (by omega) (by omega)
      have h2 : c % 128 * 2 ^ (7 * i) ≤ 127 * 2 ^ 56 := Nat.mul_le_mul (by omega) h1
      omega
  have ha' : acc < 18446744073709551616 := by
    have : 2 ^ (7 * i) ≤ 2 ^ 63 := Nat.pow_le_pow_right (by omega) (by omega)
    omega
  have e1 : ((c : Int) % 128 * 2 ^ (7 * i)) = ((c % 128 * 2 ^ (7 * i) : Nat) : Int) := by simp
  rw [e1, IntKind.wrap_u64]
  generalize hx : c % 128 * 2 ^ (7 * i) = x at *
  rw [show ((x : Int) % 18446744073709551616) = (x : Int) by omega, u64_or_nat acc x ha' hl, ← hx, Nat.mul_comm (c % 128), Rec.or_add acc (c % 128) (7 * i) ha]

set_option maxRecDepth 100000 in
set_option maxHeartbeats 1000000 in
theorem scan_cells (w : World) (b off cap : Nat) (zs : List Nat) (hz : ∀ z ∈ zs, z < 256) (hm : zs.length ≤ maxLen)
    (hc : ∀ j, j < zs.length → w.cell? ⟨b, off + j, none⟩ = some (.int .u8 ((zs.getD j 0 : Nat) : Int))) :
    Calls Try.prog 91 #[.slice (some ⟨b, off, none⟩) zs.length cap] w fun e w' => e = .returned (.tuple #[.int .u64 (((scan zs).1 : Nat) : Int), .int .i64 (((scan zs).2.1 : Nat) : Int), .int .i64 (((scan zs).2.2 : Nat) : Int)]) ∧ w' = w := by
  unfold maxLen at hm
  go_enter Try.func91, Try.ntmps91
  go_wp2
  go_loop [5, 10] (fun n i => ∃ k acc : Nat, k ≤ zs.length ∧ k ≤ 9 ∧ i = .int .i64 k ∧ n = .int .u64 (acc : Int) ∧ acc < 2 ^ (7 * k) ∧ Hid (scan zs = scanFrom k acc (zs.drop k))) (fun _ i => zs.length - (intOf i).toNat)
  case atStart => exact ⟨0, 0, Nat.zero_le _, by omega, rfl, rfl, by simp, rfl⟩
  case round =>
    obtain ⟨k, acc, hk, hk9, rfl, rfl, hacc, hsc⟩ := hrel
    by_cases hlt : k < zs.length
    · have hcell := hc k hlt
      have hcb := getD_lt hz k
      have HD : Hid (zs.drop k = zs.getD k 0 :: zs.drop (k + 1)) := by
        rw [Hid, List.drop_eq_getElem_cons hlt, List.getD_eq_getElem?_getD, List.getElem?_eq_getElem hlt]; rfl
      generalize zs.getD k 0 = c at *
      have HS : Hid (scan zs = if (k = 9 ∧ 1 < c) ∨ (0 < k ∧ c = 0) then (0, 0, 11) else if c < 128 then (acc + c * 2 ^ (7 * k), k + 1, 0) else scanFrom (k + 1) (acc + (c - 128) * 2 ^ (7 * k)) (zs.drop (k + 1))) := by
        rw [Hid, hsc.out, HD.out, scanFrom]
      clear hc hz
      have hand := u8_and127 c hcb
      by_cases hbad : (k = 9 ∧ 1 < c) ∨ (0 < k ∧ c = 0)
      · have HE : Hid (scan zs = (0, 0, 11)) := by rw [Hid, HS.out, if_pos hbad]
        by_cases h9 : k = 9
        · subst h9
          by_cases h1 : 1 < c
          · have h1' : (1 : Int) < (c : Int) := by omega
            clear hbad
            go_wp2
            go_ret3
            exact ⟨by rw [HE.out]; rfl, rfl⟩
          · obtain rfl : c = 0 := by omega
            clear hbad
            go_wp2
            go_ret3
            exact ⟨by rw [HE.out]; rfl, rfl⟩
        · have hk9' : ¬ (k : Int) = 9 := by omega
          obtain rfl : c = 0 := by omega
          have hk0 : (0 : Int) < (k : Int) := by omega
          clear hbad
          go_wp2
          go_ret3
          exact ⟨by rw [HE.out]; rfl, rfl⟩
      · have HG : Hid (scan zs = if c < 128 then (acc + c * 2 ^ (7 * k), k + 1, 0) else scanFrom (k + 1) (acc + (c - 128) * 2 ^ (7 * k)) (zs.drop (k + 1))) := by rw [Hid, HS.out, if_neg hbad]
        have HO : Hid (bits .or .u64 (acc : Int) (IntKind.u64.wrap ((c : Int) % 128 * 2 ^ (7 * k))) = ((acc + c % 128 * 2 ^ (7 * k) : Nat) : Int)) := or_low acc c k hacc hk9 (by omega)
        have HA : Hid (acc + (c - 128) * 2 ^ (7 * k) < 2 ^ (7 * (k + 1))) := by
          rw [Hid, pow7]
          have : (c - 128) * 2 ^ (7 * k) ≤ 127 * 2 ^ (7 * k) := Nat.mul_le_mul_right _ (by omega)
          omega
        by_cases hlow : c < 128
        · have HE : Hid (scan zs = (acc + c % 128 * 2 ^ (7 * k), k + 1, 0)) := by rw [Hid, HG.out, if_pos hlow, Nat.mod_eq_of_lt hlow]
          have hlow' : (c : Int) < 128 := by omega
          clear hlow
          have hgo : (k = 9 ∧ c = 1) ∨ (k ≠ 9 ∧ (k = 0 ∨ c ≠ 0)) := by omega
          clear hbad
          rcases hgo with ⟨rfl, rfl⟩ | ⟨h9, h0⟩
          · go_wp2
            go_ret3
            exact ⟨by rw [HE.out, ← HO.out]; rfl, rfl⟩
          · have hk9' : ¬ (k : Int) = 9 := by omega
            rcases h0 with hkz | h0
            · have hk0 : ¬ (0 : Int) < (k : Int) := by omega
              clear hkz
              go_wp2
              go_ret3
              exact ⟨by rw [HE.out, ← HO.out]; rfl, rfl⟩
            · have hc0 : ¬ (c : Int) = 0 := by omega
              by_cases hkk : k = 0
              · have hk0 : ¬ (0 : Int) < (k : Int) := by omega
                clear hkk
                go_wp2
                go_ret3
                exact ⟨by rw [HE.out, ← HO.out]; rfl, rfl⟩
              · have hk0 : (0 : Int) < (k : Int) := by omega
                go_wp2
                go_ret3
                exact ⟨by rw [HE.out, ← HO.out]; rfl, rfl⟩
        · have HE : Hid (scan zs = scanFrom (k + 1) (acc + c % 128 * 2 ^ (7 * k)) (zs.drop (k + 1))) := by rw [Hid, HG.out, if_neg hlow, show c - 128 = c % 128 by omega]
          have HA' : Hid (acc + c % 128 * 2 ^ (7 * k) < 2 ^ (7 * (k + 1))) := by rw [show c % 128 = c - 128 by omega]; exact HA
          have hlow' : ¬ (c : Int) < 128 := by omega
          have hk9' : ¬ (k : Int) = 9 := by omega
          have hc0 : ¬ (c : Int) = 0 := by omega
          have hk8 : k + 1 ≤ 9 := by omega
          clear hlow hbad
          by_cases hkk : k = 0
          · have hk0 : ¬ (0 : Int) < (k : Int) := by omega
            clear hkk
            go_wp2
            go_round
            case rel => exact ⟨k + 1, _, by omega, by omega, by go_num, by rw [HO.out], HA'.out, HE⟩
            case measure => simp [intOf]; omega
          · have hk0 : (0 : Int) < (k : Int) := by omega
            go_wp2
            go_round
            case rel => exact ⟨k + 1, _, by omega, by omega, by go_num, by rw [HO.out], HA'.out, HE⟩
            case measure => simp [intOf]; omega
    · have HE : Hid (scan zs = (0, 0, 10)) := by rw [Hid, hsc.out, List.drop_of_length_le (by omega)]; rfl
      clear hc hz
      go_wp2
      go_ret3
      exact ⟨by rw [HE.out]; rfl, rfl⟩

/-- codec.scan, whatever slice of bytes. -/
theorem scan_any (w : World) (ao : Option Addr) (cap n : Nat) (zs : List Nat) (hn : n = zs.length) (h : BytesAt w ao zs) (hm : zs.length ≤ maxLen) :
    Calls Try.prog 91 #[.slice ao n cap] w fun e w' => e = .returned (.tuple #[.int .u64 (((scan zs).1 : Nat) : Int), .int .i64 (((scan zs).2.1 : Nat) : Int), .int .i64 (((scan zs).2.2 : Nat) : Int)]) ∧ w' = w := by
  subst hn
  obtain ⟨hz, rfl | ⟨b, off, rfl, hc⟩⟩ := h
  · go_enter Try.func91, Try.ntmps91
    go_wp2
    go_loop [5, 10] (fun n i => i = .int .i64 0 ∧ n = .int .u64 0) (fun _ i => 0 - (intOf i).toNat)
    case atStart => exact ⟨rfl, rfl⟩
    case round =>
      obtain ⟨rfl, rfl⟩ := hrel
      go_wp2
      go_ret3
      exact ⟨rfl, rfl⟩
  · exact scan_cells w b off cap zs hz hm hc

end Go.Proofs.Ytciogmenoighoaa
