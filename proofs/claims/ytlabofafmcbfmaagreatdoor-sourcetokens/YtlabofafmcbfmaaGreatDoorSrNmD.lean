/-
  SOURCE: the document's number.
-/
import Derived.Test.YtlabofafmcbfmaaGreatDoorSrNum
import Derived.Test.YtlabofafmcbfmaaGreatDoorSrRef
import Derived.Test.YtlabofafmcbfmaaGreatDoorSrRN
namespace Go.Proofs.YtlabofafmcbfmaaGreatDoor
open Go.RowKit Go.Sort Go.Shelf

theorem pre_takeN {t : List UInt8} (h : [48, 120].isPrefixOf t = true) : t.take 2 = [48, 120] := by
  obtain ⟨r, hr⟩ := List.isPrefixOf_iff_prefix.1 h
  rw [← hr]
  rfl
set_option maxRecDepth 100000 in
set_option maxHeartbeats 4000000 in
theorem rnumber_any (w : World) (t : List UInt8) (hl : t.length ≤ 65536) : Calls Tryz.prog 13 #[.string (S t)] w fun e w' => e = .returned (.tuple #[.int .i64 (numO t).1, .bool (numO t).2]) ∧ Below w.heap.size w w' := by
  have HNm : Hid (Calls Tryz.prog 24 #[.string (S t)] w fun e w' => e = .returned (.tuple #[.int .i64 (Dec.num1 t).1, .bool (Dec.num1 t).2]) ∧ Below w.heap.size w w') := by
    have h := refNumber_any w (S t) (by rw [S_size]; unfold maxLen; omega)
    rw [S_list, ← Dec.num_same] at h
    exact h
  obtain ⟨n, hn⟩ : ∃ n, n = t.length := ⟨_, rfl⟩
  have hsz : (S t).size = n := by rw [S_size, hn]
  have HN := hidS hn
  have hn9 : n ≤ 65536 := by omega
  have x1 : (S t).extract 0 2 = S (t.take 2) := by rw [S_cut, List.drop_zero]
  have hts := S_toList (t.take 2)
  clear hn hl
  by_cases hbit : [48, 120].isPrefixOf t = true ∧ 2 < n ∧ n ≤ 18
  · obtain ⟨hp, h2, h18⟩ := hbit
    have HB := hidS (numO_x hp)
    have hq : ((S (t.take 2)).toList == [48, 120]) = true := by
      rw [hts]
      have h3 := pre_takeN hp
      rw [h3]; rfl
    have hI2 : (n : Int) > 2 := by omega
    have hI2n : (2 : Int) ≤ (n : Int) := by omega
    have hI18 : (n : Int) ≤ 18 := by omega
    have HV : Hid (Value.tuple #[.int .i64 (numO t).1, .bool (numO t).2] = optV (bitsL (t.drop 2) 0)) := by
      show _ = _
      rw [HB.out, if_neg (by rw [List.length_drop, ← HN.out]; omega)]
    have HR : Hid (Below w.heap.size w w) := Below.refl _ _
    rw [HV.out]
    clear HV HB hp hts HNm
    generalize S (t.take 2) = u2 at *
    go_enter Tryz.func13, Tryz.ntmps13
    go_wp2_with fail
    go_loopw [4, 5] (fun x y wr => ∃ (k U : Nat), 2 ≤ k ∧ k ≤ n ∧ x = .int .u64 (U : Int) ∧ y = .int .i64 (k : Int) ∧ wr = w ∧ Hid (bitsL ((t.drop 2).take (k - 2)) 0 = some U)) (fun _ y _ => n - (intOf y).toNat)
    case atStart => exact ⟨2, 0, by omega, by omega, rfl, rfl, rfl, rfl⟩
    case round =>
      obtain ⟨k, U, hk2, hkn, rfl, rfl, hwe, HI⟩ := hrel
      subst hwe
      by_cases hlt : k < n
      · have hkl : k < t.length := by rw [← HN.out]; exact hlt
        have hkS : k < (S t).size := by rw [S_size]; exact hkl
        obtain ⟨c, hc⟩ : ∃ c, c = t[k].toNat := ⟨_, rfl⟩
        have hget : ((S t)[k]'hkS).toNat = c := by rw [hc]; exact congrArg UInt8.toNat (S_get t k hkS)
        have hc255 : c ≤ 255 := by have := UInt8.toNat_lt t[k]; omega
        have hkI : (k : Int) < (n : Int) := by omega
        have HDg := hidS (rdigit_any wr c hc255)
        have hU : U < 1152921504606846976 := by
          have h1 := bitsL_lt _ _ _ HI.out
          have h2 : ((t.drop 2).take (k - 2)).length ≤ 15 := by rw [List.length_take, List.length_drop, ← HN.out]; omega
          have h3 : 16 ^ ((t.drop 2).take (k - 2)).length ≤ 16 ^ 15 := Nat.pow_le_pow_right (by omega) h2
          have h4 : 16 ^ 15 = 1152921504606846976 := by decide
          omega
        have hUI : (U : Int) < 1152921504606846976 := by omega
        have HSt : Hid ((t.drop 2).take (k + 1 - 2) = (t.drop 2).take (k - 2) ++ [t[k]]) := by
          show _ = _
          rw [show k + 1 - 2 = (k - 2) + 1 by omega, List.take_succ_eq_append_getElem (by rw [List.length_drop, ← HN.out]; omega)]
          simp only [List.getElem_drop, show 2 + (k - 2) = k by omega]
          rfl
        have HAl : Hid (t.drop 2 = (t.drop 2).take (k - 2) ++ t[k] :: t.drop (k + 1)) := by
          show _ = _
          have h1 : (t.drop 2).drop (k - 2) = t[k] :: t.drop (k + 1) := by
            rw [List.drop_drop, show 2 + (k - 2) = k by omega, List.drop_eq_getElem_cons hkl]
            rfl
          rw [← h1, List.take_append_drop]
        have HHx : Hid (hexD t[k] = if 48 ≤ c ∧ c ≤ 57 then some (c - 48) else if 97 ≤ c ∧ c ≤ 102 then some (c - 87) else none) := by show _ = _; rw [hc]; rfl
        have HGo : Hid (∀ d, hexD t[k] = some d → bitsL ((t.drop 2).take (k + 1 - 2)) 0 = some (16 * U + d)) := fun d hd => by
          rw [HSt.out, bitsL_app, HI.out]
          simp [bitsL, hd]
        have HNo : Hid (hexD t[k] = none → bitsL (t.drop 2) 0 = none) := fun hd => by
          rw [HAl.out, bitsL_app, HI.out]
          simp [bitsL, hd]
        clear hc HI HSt HAl hU
        by_cases h1 : 48 ≤ c ∧ c ≤ 57
        · have hd : diC c = true := by simp [diC, h1]
          rw [hd] at HDg
          have HF := hidS (HGo.out (c - 48) (by rw [HHx.out, if_pos h1]))
          have i1 : (48 : Int) ≤ (c : Int) := by omega
          have i2 : (c : Int) ≤ 57 := by omega
          clear hd HHx HGo HNo h1
          go_wp2_with (first | (go_at_call 12; refine HDg.out.mono ?_; rintro e wE ⟨rfl, hwE⟩; have hwE' := hwE.symm; subst hwE'; clear hwE))
          go_roundw
          case rel => exact ⟨k + 1, 16 * U + (c - 48), by omega, by omega, congrArg (Value.int .u64) (by omega), by go_num, trivial, HF.out⟩
          case measure => simp [intOf]; omega
        · have hd : diC c = false := by simp [diC]; omega
          rw [hd] at HDg
          by_cases h2 : 97 ≤ c
          · have i1 : (97 : Int) ≤ (c : Int) := by omega
            have i1' : (c : Int) ≥ 97 := by omega
            by_cases h3 : c ≤ 102
            · have HF := hidS (HGo.out (c - 87) (by rw [HHx.out, if_neg h1, if_pos ⟨h2, h3⟩]))
              have i2 : (c : Int) ≤ 102 := by omega
              clear hd HHx HGo HNo h1
              go_wp2_with (first | (go_at_call 12; refine HDg.out.mono ?_; rintro e wE ⟨rfl, hwE⟩; have hwE' := hwE.symm; subst hwE'; clear hwE))
              go_roundw
              case rel => exact ⟨k + 1, 16 * U + (c - 87), by omega, by omega, congrArg (Value.int .u64) (by omega), by go_num, trivial, HF.out⟩
              case measure => simp [intOf]; omega
            · have HF := hidS (HNo.out (by rw [HHx.out, if_neg h1, if_neg (by omega)]))
              have i2 : decide ((c : Int) ≤ 102) = false := decide_eq_false (by omega)
              clear hd HHx HGo HNo h1
              go_wp2_with (first | (go_at_call 12; refine HDg.out.mono ?_; rintro e wE ⟨rfl, hwE⟩; have hwE' := hwE.symm; subst hwE'; clear hwE))
              go_ret2
              exact ⟨by rw [HF.out]; rfl, HR.out⟩
          · have HF := hidS (HNo.out (by rw [HHx.out, if_neg h1, if_neg (by omega)]))
            have i1 : decide ((97 : Int) ≤ (c : Int)) = false := decide_eq_false (by omega)
            clear hd HHx HGo HNo h1
            go_wp2_with (first | (go_at_call 12; refine HDg.out.mono ?_; rintro e wE ⟨rfl, hwE⟩; have hwE' := hwE.symm; subst hwE'; clear hwE))
            go_ret2
            exact ⟨by rw [HF.out]; rfl, HR.out⟩
      · have hkI : ¬ (k : Int) < (n : Int) := by omega
        have hke : k = n := by omega
        have HF : Hid (bitsL (t.drop 2) 0 = some U) := by
          have h := HI.out
          rw [List.take_of_length_le (by rw [List.length_drop, ← HN.out]; omega)] at h
          exact h
        have hU : U < 18446744073709551616 := by
          have h1 := bitsL_lt _ _ _ HF.out
          have h2 : (t.drop 2).length ≤ 16 := by rw [List.length_drop, ← HN.out]; omega
          have h3 : 16 ^ (t.drop 2).length ≤ 16 ^ 16 := Nat.pow_le_pow_right (by omega) h2
          have h4 : 16 ^ 16 = 18446744073709551616 := by decide
          omega
        have hw := i64N_wrap U hU
        clear HI hke hU
        go_wp2_with fail
        go_ret2
        exact ⟨by rw [HF.out]; rfl, HR.out⟩
  · have HE : Hid (numO t = Dec.num1 t) := by
      show _ = _
      unfold numO
      by_cases hp : [48, 120].isPrefixOf t = true
      · rw [if_pos hp, if_pos (by rw [← HN.out]; have hz : ¬ (2 < n ∧ n ≤ 18) := fun h => hbit ⟨hp, h.1, h.2⟩; have h := (List.isPrefixOf_iff_prefix.1 hp).length_le; simp only [List.length_cons, List.length_nil] at h; rw [← HN.out] at h; omega), dec_no_x hp]
      · rw [if_neg hp]
    rw [HE.out]
    clear HE
    obtain ⟨⟨x, b⟩, hxb⟩ : ∃ q, q = Dec.num1 t := ⟨_, rfl⟩
    rw [← hxb] at HNm ⊢
    simp only at HNm ⊢
    clear hxb
    by_cases h2 : 2 < n
    · have hI2 : (n : Int) > 2 := by omega
      have hI2n : (2 : Int) ≤ (n : Int) := by omega
      by_cases hp : [48, 120].isPrefixOf t = true
      · have h18 : ¬ n ≤ 18 := fun h => hbit ⟨hp, h2, h⟩
        have hI18 : ¬ (n : Int) ≤ 18 := by omega
        have hI18B : decide ((n : Int) ≤ 18) = false := decide_eq_false hI18
        have hq : ((S (t.take 2)).toList == [48, 120]) = true := by
          rw [hts, pre_takeN hp]; rfl
        clear hp hbit hts h18
        generalize S (t.take 2) = u2 at *
        go_enter Tryz.func13, Tryz.ntmps13
        go_wp2_with fail
        refine HNm.out.mono ?_
        rintro e w2 ⟨rfl, hg⟩
        have HG2 := hidS hg
        clear hg
        go_wp2_with fail
        go_ret2
        exact ⟨rfl, HG2.out⟩
      · have hq : ((S (t.take 2)).toList == [48, 120]) = false := by
          rw [hts]
          cases he : (t.take 2 == [48, 120]) with
          | false => rfl
          | true =>
            exfalso
            apply hp
            rw [List.isPrefixOf_iff_prefix, ← beq_iff_eq.1 he]
            exact List.take_prefix _ _
        clear hp hbit hts
        generalize S (t.take 2) = u2 at *
        go_enter Tryz.func13, Tryz.ntmps13
        go_wp2_with fail
        refine HNm.out.mono ?_
        rintro e w2 ⟨rfl, hg⟩
        have HG2 := hidS hg
        clear hg
        go_wp2_with fail
        go_ret2
        exact ⟨rfl, HG2.out⟩
    · have hI2 : ¬ (n : Int) > 2 := by omega
      have hI2B : decide ((n : Int) > 2) = false := decide_eq_false hI2
      clear hbit hts
      go_enter Tryz.func13, Tryz.ntmps13
      go_wp2_with fail
      refine HNm.out.mono ?_
      rintro e w2 ⟨rfl, hg⟩
      have HG2 := hidS hg
      clear hg
      go_wp2_with fail
      go_ret2
      exact ⟨rfl, HG2.out⟩
end Go.Proofs.YtlabofafmcbfmaaGreatDoor
