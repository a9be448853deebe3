/-
  THE WALK OF preluderef01.Number.
-/
import Derived.Test.YtlabofafmcbfmaaGreatDoorSrRD
import Derived.Test.YtlabofafmcbfmaaGreatDoorDig
namespace Go.Proofs.YtlabofafmcbfmaaGreatDoor
open Go.RowKit

theorem take_snoc8 (s : ByteArray) (k : Nat) (h : k < s.size) : s.data.toList.take (k + 1) = s.data.toList.take k ++ [s[k]] := by
  rw [List.take_succ_eq_append_getElem (by simpa using h)]; rfl
theorem mag_snoc (l : List UInt8) (c : UInt8) : Dec.mag (l ++ [c]) = Dec.add1 (Dec.mag l) c := by simp [Dec.mag]

theorem u64_eq {a b : Int} (h : a = b) : Value.int .u64 a = .int .u64 b := by rw [h]
theorem add1_in (m : Nat) (c : UInt8) (h1 : 48 ≤ (c.toNat : Int)) (h2 : (c.toNat : Int) ≤ 57) : IntKind.u64.wrap (IntKind.u64.wrap (10 * (m : Int)) + ((c.toNat : Int) - 48)) = ((Dec.add1 m c : Nat) : Int) := by
  rw [Dec.add1, if_pos (by omega), IntKind.wrap_u64, IntKind.wrap_u64]
  omega

theorem head_of (s : ByteArray) (h : 0 < s.size) : s.data.toList.head? = some s[0] := by
  have hl : 0 < s.data.toList.length := by rw [Array.length_toList]; exact h
  rw [List.head?_eq_getElem?, List.getElem?_eq_getElem hl]; rfl
theorem cand_neg (s : ByteArray) (h : 0 < s.size) (h45 : s[0].toNat = 45) {k : Nat} (hk : s.data.toList.take 20 = s.data.toList.take k) (hm : Dec.mag (s.data.toList.take k) < 18446744073709551616) :
    wrap64 (IntKind.u64.wrap (-((Dec.mag (s.data.toList.take k) : Nat) : Int))) = Dec.cand s.data.toList := by
  have e : s[0] = 45 := by apply UInt8.toNat_inj.1; exact h45
  unfold Dec.cand
  rw [head_of s h, e, if_pos rfl, hk, IntKind.wrap_u64]
  generalize Dec.mag (s.data.toList.take k) = m at *
  unfold wrap64 Dec.asInt
  split <;> omega
theorem cand_pos (s : ByteArray) (h : ∀ hh : 0 < s.size, s[0].toNat ≠ 45) {k : Nat} (hk : s.data.toList.take 20 = s.data.toList.take k) (hm : Dec.mag (s.data.toList.take k) < 18446744073709551616) :
    wrap64 ((Dec.mag (s.data.toList.take k) : Nat) : Int) = Dec.cand s.data.toList := by
  have e : ¬ s.data.toList.head? = some 45 := by
    by_cases h0 : 0 < s.size
    · rw [head_of s h0]
      intro hh
      have h1 := Option.some.inj hh
      exact h h0 (by rw [h1]; rfl)
    · have : s.data.toList = [] := List.eq_nil_of_length_eq_zero (by rw [Array.length_toList]; exact Nat.eq_zero_of_not_pos h0)
      rw [this]; simp
  unfold Dec.cand
  rw [if_neg e, hk]
  generalize Dec.mag (s.data.toList.take k) = m at *
  unfold wrap64 Dec.asInt
  split <;> omega


set_option maxHeartbeats 1000000 in
theorem refNumber_any (w : World) (s : ByteArray) (hs : s.size ≤ maxLen) :
    Calls Tryz.prog 24 #[.string s] w fun e w' => e = .returned (.tuple #[.int .i64 (Dec.num2 s.data.toList).1, .bool (Dec.num2 s.data.toList).2]) ∧ Below w.heap.size w w' := by
  unfold maxLen at hs
  go_enter Tryz.func24, Tryz.ntmps24
  go_wp2
  go_loop [4, 5] (fun m i => ∃ k : Nat, k ≤ s.size ∧ k ≤ 20 ∧ i = .int .i64 k ∧ m = .int .u64 ((Dec.mag (s.data.toList.take k) : Nat) : Int)) (fun _ i => s.size - (intOf i).toNat)
  case atStart => exact ⟨0, Nat.zero_le _, by omega, rfl, rfl⟩
  case round =>
    obtain ⟨k, hk, hk20, rfl, rfl⟩ := hrel
    have hml : Dec.mag (s.data.toList.take k) < 18446744073709551616 := Dec.mag_lt _ 0 (by omega)
    by_cases hlt : k < s.size
    · by_cases h20 : k < 20
      · have HT : Hid (Dec.mag (s.data.toList.take (k + 1)) = Dec.add1 (Dec.mag (s.data.toList.take k)) s[k]) := by rw [take_snoc8 s k hlt, mag_snoc]; exact rfl
        generalize Dec.mag (s.data.toList.take k) = m at *
        go_wp2
        · go_round
          case rel => exact ⟨k + 1, by omega, by omega, by go_num, by rw [HT.out]; exact u64_eq (add1_in m _ ‹48 ≤ (s[k].toNat : Int)› ‹(s[k].toNat : Int) ≤ 57›)⟩
          case measure => simp [intOf]; omega
        · go_round
          case rel => exact ⟨k + 1, by omega, by omega, by go_num, by rw [HT.out, Dec.add1, if_neg (by omega)]⟩
          case measure => simp [intOf]; omega
        · go_round
          case rel => exact ⟨k + 1, by omega, by omega, by go_num, by rw [HT.out, Dec.add1, if_neg (by omega)]⟩
          case measure => simp [intOf]; omega
      · have HT : Hid (s.data.toList.take 20 = s.data.toList.take k) := by rw [Hid, show k = 20 by omega]
        by_cases h0 : 0 < s.size
        · by_cases h45 : s[0].toNat = 45
          · have hT : ((s[0].toNat : Int) == 45) = true := by rw [beq_iff_eq]; omega
            have CE : Hid (wrap64 (IntKind.u64.wrap (-((Dec.mag (s.data.toList.take k) : Nat) : Int))) = Dec.cand s.data.toList) := cand_neg s h0 h45 HT.out hml
            have cb := Dec.cand_bounds s.data.toList
            generalize Dec.mag (s.data.toList.take k) = m at *
            go_wp2_with fail
            rw [CE.out]
            refine (refDigits_any w _ cb.1 cb.2).mono ?_
            rintro e w1 ⟨rfl, hb1⟩
            by_cases hE : Lib.itoa (Dec.cand s.data.toList) = s.data.toList
            · have hB : (!Lib.itoa (Dec.cand s.data.toList) == s.toList) = false := by rw [byteList s]; simp [hE]
              have HE : Hid (Dec.num2 s.data.toList = (Dec.cand s.data.toList, true)) := by unfold Dec.num2; rw [Hid, if_pos hE]
              clear hE
              go_wp2
              go_ret2
              exact ⟨by rw [HE.out, ← CE.out]; rfl, hb1.below⟩
            · have hB : (!Lib.itoa (Dec.cand s.data.toList) == s.toList) = true := by rw [byteList s]; simp [hE]
              have HE : Hid (Dec.num2 s.data.toList = (0, false)) := by unfold Dec.num2; rw [Hid, if_neg hE]
              clear hE
              go_wp2
              go_ret2
              exact ⟨by rw [HE.out]; rfl, hb1.below⟩
          · have hT : ((s[0].toNat : Int) == 45) = false := by rw [beq_eq_false_iff_ne]; omega
            have CE : Hid (wrap64 ((Dec.mag (s.data.toList.take k) : Nat) : Int) = Dec.cand s.data.toList) := cand_pos s (fun _ => h45) HT.out hml
            have cb := Dec.cand_bounds s.data.toList
            generalize Dec.mag (s.data.toList.take k) = m at *
            go_wp2_with fail
            rw [CE.out]
            refine (refDigits_any w _ cb.1 cb.2).mono ?_
            rintro e w1 ⟨rfl, hb1⟩
            by_cases hE : Lib.itoa (Dec.cand s.data.toList) = s.data.toList
            · have hB : (!Lib.itoa (Dec.cand s.data.toList) == s.toList) = false := by rw [byteList s]; simp [hE]
              have HE : Hid (Dec.num2 s.data.toList = (Dec.cand s.data.toList, true)) := by unfold Dec.num2; rw [Hid, if_pos hE]
              clear hE
              go_wp2
              go_ret2
              exact ⟨by rw [HE.out, ← CE.out]; rfl, hb1.below⟩
            · have hB : (!Lib.itoa (Dec.cand s.data.toList) == s.toList) = true := by rw [byteList s]; simp [hE]
              have HE : Hid (Dec.num2 s.data.toList = (0, false)) := by unfold Dec.num2; rw [Hid, if_neg hE]
              clear hE
              go_wp2
              go_ret2
              exact ⟨by rw [HE.out]; rfl, hb1.below⟩
        · omega
    · have HT : Hid (s.data.toList.take 20 = s.data.toList.take k) := by
        have e : s.data.toList.length = s.size := by rw [Array.length_toList]; rfl
        rw [Hid, List.take_of_length_le (by omega), List.take_of_length_le (by omega)]
      by_cases h0 : 0 < s.size
      · by_cases h45 : s[0].toNat = 45
        · have hT : ((s[0].toNat : Int) == 45) = true := by rw [beq_iff_eq]; omega
          have CE : Hid (wrap64 (IntKind.u64.wrap (-((Dec.mag (s.data.toList.take k) : Nat) : Int))) = Dec.cand s.data.toList) := cand_neg s h0 h45 HT.out hml
          have cb := Dec.cand_bounds s.data.toList
          generalize Dec.mag (s.data.toList.take k) = m at *
          go_wp2_with fail
          rw [CE.out]
          refine (refDigits_any w _ cb.1 cb.2).mono ?_
          rintro e w1 ⟨rfl, hb1⟩
          by_cases hE : Lib.itoa (Dec.cand s.data.toList) = s.data.toList
          · have hB : (!Lib.itoa (Dec.cand s.data.toList) == s.toList) = false := by rw [byteList s]; simp [hE]
            have HE : Hid (Dec.num2 s.data.toList = (Dec.cand s.data.toList, true)) := by unfold Dec.num2; rw [Hid, if_pos hE]
            clear hE
            go_wp2
            go_ret2
            exact ⟨by rw [HE.out, ← CE.out]; rfl, hb1.below⟩
          · have hB : (!Lib.itoa (Dec.cand s.data.toList) == s.toList) = true := by rw [byteList s]; simp [hE]
            have HE : Hid (Dec.num2 s.data.toList = (0, false)) := by unfold Dec.num2; rw [Hid, if_neg hE]
            clear hE
            go_wp2
            go_ret2
            exact ⟨by rw [HE.out]; rfl, hb1.below⟩
        · have hT : ((s[0].toNat : Int) == 45) = false := by rw [beq_eq_false_iff_ne]; omega
          have CE : Hid (wrap64 ((Dec.mag (s.data.toList.take k) : Nat) : Int) = Dec.cand s.data.toList) := cand_pos s (fun _ => h45) HT.out hml
          have cb := Dec.cand_bounds s.data.toList
          generalize Dec.mag (s.data.toList.take k) = m at *
          go_wp2_with fail
          rw [CE.out]
          refine (refDigits_any w _ cb.1 cb.2).mono ?_
          rintro e w1 ⟨rfl, hb1⟩
          by_cases hE : Lib.itoa (Dec.cand s.data.toList) = s.data.toList
          · have hB : (!Lib.itoa (Dec.cand s.data.toList) == s.toList) = false := by rw [byteList s]; simp [hE]
            have HE : Hid (Dec.num2 s.data.toList = (Dec.cand s.data.toList, true)) := by unfold Dec.num2; rw [Hid, if_pos hE]
            clear hE
            go_wp2
            go_ret2
            exact ⟨by rw [HE.out, ← CE.out]; rfl, hb1.below⟩
          · have hB : (!Lib.itoa (Dec.cand s.data.toList) == s.toList) = true := by rw [byteList s]; simp [hE]
            have HE : Hid (Dec.num2 s.data.toList = (0, false)) := by unfold Dec.num2; rw [Hid, if_neg hE]
            clear hE
            go_wp2
            go_ret2
            exact ⟨by rw [HE.out]; rfl, hb1.below⟩
      · have CE : Hid (wrap64 ((Dec.mag (s.data.toList.take k) : Nat) : Int) = Dec.cand s.data.toList) := cand_pos s (fun hh => absurd hh h0) HT.out hml
        have cb := Dec.cand_bounds s.data.toList
        generalize Dec.mag (s.data.toList.take k) = m at *
        go_wp2_with fail
        rw [CE.out]
        refine (refDigits_any w _ cb.1 cb.2).mono ?_
        rintro e w1 ⟨rfl, hb1⟩
        by_cases hE : Lib.itoa (Dec.cand s.data.toList) = s.data.toList
        · have hB : (!Lib.itoa (Dec.cand s.data.toList) == s.toList) = false := by rw [byteList s]; simp [hE]
          have HE : Hid (Dec.num2 s.data.toList = (Dec.cand s.data.toList, true)) := by unfold Dec.num2; rw [Hid, if_pos hE]
          clear hE
          go_wp2
          go_ret2
          exact ⟨by rw [HE.out, ← CE.out]; rfl, hb1.below⟩
        · have hB : (!Lib.itoa (Dec.cand s.data.toList) == s.toList) = true := by rw [byteList s]; simp [hE]
          have HE : Hid (Dec.num2 s.data.toList = (0, false)) := by unfold Dec.num2; rw [Hid, if_neg hE]
          clear hE
          go_wp2
          go_ret2
          exact ⟨by rw [HE.out]; rfl, hb1.below⟩

end Go.Proofs.YtlabofafmcbfmaaGreatDoor
