/-
  THE WALK OF preluderef01.number.
-/
import Derived.Test.YtjmlogljfboleaaScan
namespace Go.Proofs.Ytjmlogljfboleaa
open Go.RowKit

theorem add_low (acc c i : Nat) (ha : acc < 2 ^ (7 * i)) (hi : i ≤ 9) (h9 : i = 9 → c % 128 ≤ 1) : IntKind.u64.wrap ((acc : Int) + IntKind.u64.wrap ((c : Int) % 128 * 2 ^ (7 * i))) = ((acc + c % 128 * 2 ^ (7 * i) : Nat) : Int) := by
  have hl : acc + c % 128 * 2 ^ (7 * i) < 18446744073709551616 := by
    by_cases e : i = 9
    · subst e
      have := h9 rfl
      have : c % 128 * 2 ^ (7 * 9) ≤ 1 * 2 ^ (7 * 9) := Nat.mul_le_mul_right _ this
      omega
    · have h1 : 2 ^ (7 * i) ≤ 2 ^ 56 := Nat.pow_le_pow_right (by omega) (by omega)
      have h2 : c % 128 * 2 ^ (7 * i) ≤ 127 * 2 ^ 56 := Nat.mul_le_mul (by omega) h1
      omega
  have e1 : ((c : Int) % 128 * 2 ^ (7 * i)) = ((c % 128 * 2 ^ (7 * i) : Nat) : Int) := by simp
  rw [e1, IntKind.wrap_u64, IntKind.wrap_u64]
  generalize c % 128 * 2 ^ (7 * i) = x at *
  omega

set_option maxRecDepth 100000 in
set_option maxHeartbeats 1000000 in
theorem number_any (w : World) (b off cap n : Nat) (zs : List Nat) (hn : n = zs.length) (hb : BytesAt w (some ⟨b, off, none⟩) zs) (hm : zs.length ≤ maxLen) :
    Calls Try.prog 79 #[.slice (some ⟨b, off, none⟩) n cap] w fun e w' => e = .returned (.tuple #[.int .u64 (((scan zs).1 : Nat) : Int), .int .i64 (((scan zs).2.1 : Nat) : Int), .int .i64 (((scan zs).2.2 : Nat) : Int)]) ∧ w' = w := by
  subst hn
  have hz := hb.1
  have hc : ∀ j, j < zs.length → w.cell? ⟨b, off + j, none⟩ = some (.int .u8 ((zs.getD j 0 : Nat) : Int)) := by
    intro j hj
    obtain ⟨_, h0 | ⟨b', o', e, h1⟩⟩ := hb
    · rw [h0] at hj; simp at hj
    · simp only [Option.some.injEq, Addr.mk.injEq] at e
      obtain ⟨rfl, rfl, _⟩ := e
      exact h1 j hj
  clear hb
  unfold maxLen at hm
  go_enter Try.func79, Try.ntmps79
  go_wp2
  go_loop [5, 6] (fun n i => ∃ k acc : Nat, k ≤ zs.length ∧ k ≤ 9 ∧ i = .int .i64 k ∧ n = .int .u64 (acc : Int) ∧ acc < 2 ^ (7 * k) ∧ Hid (scan zs = scanFrom k acc (zs.drop k))) (fun _ i => zs.length - (intOf i).toNat)
  case atStart => exact ⟨0, 0, Nat.zero_le _, by omega, rfl, rfl, by simp, rfl⟩
  case round =>
    obtain ⟨k, acc, hk, hk9, rfl, rfl, hacc, hsc⟩ := hrel
    have hk10 : (k : Int) < 10 := by omega
    by_cases hlt : k < zs.length
    · have hcell := hc k hlt
      have hcb := getD_lt hz k
      have hkl : ((k : Int) == (zs.length : Int)) = false := by rw [beq_eq_false_iff_ne]; omega
      have HD : Hid (zs.drop k = zs.getD k 0 :: zs.drop (k + 1)) := by
        rw [Hid, List.drop_eq_getElem_cons hlt, List.getD_eq_getElem?_getD, List.getElem?_eq_getElem hlt]; rfl
      generalize zs.getD k 0 = c at *
      have HS : Hid (scan zs = if (k = 9 ∧ 1 < c) ∨ (0 < k ∧ c = 0) then (0, 0, 11) else if c < 128 then (acc + c * 2 ^ (7 * k), k + 1, 0) else scanFrom (k + 1) (acc + (c - 128) * 2 ^ (7 * k)) (zs.drop (k + 1))) := by
        rw [Hid, hsc.out, HD.out, scanFrom]
      clear hc hz
      by_cases hbad : (k = 9 ∧ 1 < c) ∨ (0 < k ∧ c = 0)
      · have HE : Hid (scan zs = (0, 0, 11)) := by rw [Hid, HS.out, if_pos hbad]
        by_cases h9 : k = 9
        · subst h9
          by_cases h1 : 1 < c
          · have h1' : (1 : Int) < (c : Int) := by omega
            clear hbad
            go_wp2
            go_ret3
            exact ⟨by rw [HE.out]; rfl, rfl⟩
          · obtain rfl : c = 0 := by omega
            clear hbad
            go_wp2
            go_ret3
            exact ⟨by rw [HE.out]; rfl, rfl⟩
        · have hk9' : ¬ (k : Int) = 9 := by omega
          obtain rfl : c = 0 := by omega
          have hk0 : (0 : Int) < (k : Int) := by omega
          clear hbad
          go_wp2
          go_ret3
          exact ⟨by rw [HE.out]; rfl, rfl⟩
      · have HG : Hid (scan zs = if c < 128 then (acc + c * 2 ^ (7 * k), k + 1, 0) else scanFrom (k + 1) (acc + (c - 128) * 2 ^ (7 * k)) (zs.drop (k + 1))) := by rw [Hid, HS.out, if_neg hbad]
        have HO : Hid (IntKind.u64.wrap ((acc : Int) + IntKind.u64.wrap ((c : Int) % 128 * 2 ^ (7 * k))) = ((acc + c % 128 * 2 ^ (7 * k) : Nat) : Int)) := add_low acc c k hacc hk9 (by omega)
        have HA : Hid (acc + (c - 128) * 2 ^ (7 * k) < 2 ^ (7 * (k + 1))) := by
          rw [Hid, pow7]
          have : (c - 128) * 2 ^ (7 * k) ≤ 127 * 2 ^ (7 * k) := Nat.mul_le_mul_right _ (by omega)
          omega
        by_cases hlow : c < 128
        · have HE : Hid (scan zs = (acc + c % 128 * 2 ^ (7 * k), k + 1, 0)) := by rw [Hid, HG.out, if_pos hlow, Nat.mod_eq_of_lt hlow]
          have hlow' : (c : Int) < 128 := by omega
          clear hlow
          have hgo : (k = 9 ∧ c = 1) ∨ (k ≠ 9 ∧ (k = 0 ∨ c ≠ 0)) := by omega
          clear hbad
          rcases hgo with ⟨rfl, rfl⟩ | ⟨h9, h0⟩
          · have HE9 : Hid (scan zs = (acc + 9223372036854775808, 10, 0)) := HE.out
            have HV : Hid ((acc : Int) + 9223372036854775808 = ((acc + 9223372036854775808 : Nat) : Int)) := by rw [Hid]; omega
            clear HE HO HA HG HS
            go_wp2
            go_ret3
            refine ⟨?_, rfl⟩
            show Ending.returned (.tuple #[.int .u64 ((acc : Int) + 9223372036854775808), .int .i64 10, .int .i64 0]) = _
            rw [HE9.out, HV.out]
            rfl
          · have hk9' : ¬ (k : Int) = 9 := by omega
            rcases h0 with hkz | h0
            · have hk0 : ¬ (0 : Int) < (k : Int) := by omega
              clear hkz
              go_wp2
              go_ret3
              exact ⟨by rw [HE.out, ← HO.out]; rfl, rfl⟩
            · have hc0 : ¬ (c : Int) = 0 := by omega
              by_cases hkk : k = 0
              · have hk0 : ¬ (0 : Int) < (k : Int) := by omega
                clear hkk
                go_wp2
                go_ret3
                exact ⟨by rw [HE.out, ← HO.out]; rfl, rfl⟩
              · have hk0 : (0 : Int) < (k : Int) := by omega
                go_wp2
                go_ret3
                exact ⟨by rw [HE.out, ← HO.out]; rfl, rfl⟩
        · have HE : Hid (scan zs = scanFrom (k + 1) (acc + c % 128 * 2 ^ (7 * k)) (zs.drop (k + 1))) := by rw [Hid, HG.out, if_neg hlow, show c - 128 = c % 128 by omega]
          have HA' : Hid (acc + c % 128 * 2 ^ (7 * k) < 2 ^ (7 * (k + 1))) := by rw [show c % 128 = c - 128 by omega]; exact HA
          have hlow' : ¬ (c : Int) < 128 := by omega
          have hk9' : ¬ (k : Int) = 9 := by omega
          have hc0 : ¬ (c : Int) = 0 := by omega
          have hk8 : k + 1 ≤ 9 := by omega
          clear hlow hbad
          by_cases hkk : k = 0
          · have hk0 : ¬ (0 : Int) < (k : Int) := by omega
            clear hkk
            go_wp2
            go_round
            case rel => exact ⟨k + 1, _, by omega, by omega, by go_num, by rw [HO.out], HA'.out, HE⟩
            case measure => simp [intOf]; omega
          · have hk0 : (0 : Int) < (k : Int) := by omega
            go_wp2
            go_round
            case rel => exact ⟨k + 1, _, by omega, by omega, by go_num, by rw [HO.out], HA'.out, HE⟩
            case measure => simp [intOf]; omega
    · have HE : Hid (scan zs = (0, 0, 10)) := by rw [Hid, hsc.out, List.drop_of_length_le (by omega)]; rfl
      obtain rfl : k = zs.length := by omega
      clear hc hz
      go_wp2
      go_ret3
      exact ⟨by rw [HE.out]; rfl, rfl⟩

end Go.Proofs.Ytjmlogljfboleaa
