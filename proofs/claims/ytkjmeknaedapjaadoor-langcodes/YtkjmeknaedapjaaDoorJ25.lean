import Derived.Test.YtkjmeknaedapjaaDoorJ17
import Derived.Test.YtkjmeknaedapjaaDoorJ24
import Derived.Test.YtkjmeknaedapjaaDoorJ20
import Derived.Test.YtkjmeknaedapjaaDoorJ18
/-
  THE WALKS OF Digest: the code's, the document's.
-/
namespace Go.Proofs.YtkjmeknaedapjaaDoor
open Go.RowKit Go.Sort

/-- what Digest answers -/
def digN (Ps : List Pr) : Int := if (checkN Ps).2 = 0 then ((Crc.sum (encN Ps) : Nat) : Int) else 0
set_option maxRecDepth 100000 in
set_option maxHeartbeats 1000000 in
theorem digest_any (w : World) (ao : Option Addr) (n cap : Nat) (Ps : List Pr) (h : LibAt w ao Ps) (hn : n = Ps.length) (hc : n ≤ cap) (hm : n ≤ 140737488351232) (ht : TabAt w) :
    Calls Tryd.prog 8 #[.slice ao n cap] w fun e w' => e = .returned (.tuple #[.int .u32 (digN Ps), .int .i64 (checkN Ps).2]) ∧ Below w.heap.size w w' := by
  have HT : Hid (TabAt w) := ht
  have H : Hid (LibAt w ao Ps) := h
  have HN : Hid (n = Ps.length) := hn
  clear ht h hn
  go_enter Tryd.func8, Tryd.ntmps8
  go_wp2_with fail
  refine (encode_any w ao n cap Ps H.out HN.out hc hm).mono ?_
  rintro e w1 ⟨hp, hb1⟩
  have HB1 : Hid (Below w.heap.size w w1) := hb1
  rcases hp with ⟨h0, rfl⟩ | ⟨h0, g, rfl, hr, _⟩
  · have HD : Hid (digN Ps = 0) := by show digN Ps = 0; unfold digN; rw [if_neg h0]
    have h0' : ((checkN Ps).2 != 0) = true := by simpa using h0
    generalize hc2 : (checkN Ps).2 = c2 at *
    clear h0 hb1
    go_wp2
    go_ret2
    exact ⟨by rw [HD.out, hc2]; rfl, HB1.out⟩
  · have HD : Hid (digN Ps = ((Crc.sum (encN Ps) : Nat) : Int)) := by show digN Ps = _; unfold digN; rw [if_pos h0]
    have HK : Hid ((checkN Ps).2 = 0) := h0
    have HL : Hid ((encN Ps).length ≤ maxLen) := by have := encN_length h0; show _ ≤ _; unfold maxLen; omega
    have HX : Hid (BytesAt w1 (some ⟨g, 0, none⟩) (encN Ps)) := hr.at' (encN_lt Ps)
    have HT1 : Hid (TabAt w1) := HT.out.kept hb1
    clear h0 hb1 hr
    go_wp2_with fail
    refine (sum_any w1 (some ⟨g, 0, none⟩) _ _ (encN Ps) rfl HX.out HL.out HT1.out).mono ?_
    rintro e w2 ⟨rfl, rfl⟩
    rw [← HD.out]
    generalize hdn : digN Ps = dn at *
    clear HD HX HT1
    go_wp2
    go_ret2
    exact ⟨by rw [HK.out, hdn]; rfl, HB1.out⟩
set_option maxRecDepth 100000 in
set_option maxHeartbeats 1000000 in
theorem refDigest_any (w : World) (ao : Option Addr) (n cap : Nat) (Ps : List Pr) (h : LibAt w ao Ps) (hn : n = Ps.length) (hm : n ≤ 140737488351232) :
    Calls Tryd.prog 10 #[.slice ao n cap] w fun e w' => e = .returned (.tuple #[.int .u32 (digN Ps), .int .i64 (checkN Ps).2]) ∧ Below w.heap.size w w' := by
  have H : Hid (LibAt w ao Ps) := h
  have HN : Hid (n = Ps.length) := hn
  clear h hn
  go_enter Tryd.func10, Tryd.ntmps10
  go_wp2_with fail
  refine (refEncode_any w ao n cap Ps H.out HN.out hm).mono ?_
  rintro e w1 ⟨v1, rfl, hr1⟩
  have HB1 : Hid (Below w.heap.size w w1) := hr1.bel
  obtain ⟨a1, c1, rfl, hx1, _, _⟩ := hr1.own.slice
  by_cases h0 : (checkN Ps).2 = 0
  · have HD : Hid (digN Ps = ((Crc.sum (encN Ps) : Nat) : Int)) := by show digN Ps = _; unfold digN; rw [if_pos h0]
    have HK : Hid ((checkN Ps).2 = 0) := h0
    have HL : Hid ((encN Ps).length ≤ maxLen) := by have := encN_length h0; show _ ≤ _; unfold maxLen; omega
    rw [encR_ok h0] at hx1 ⊢
    have HX : Hid (BytesAt w1 a1 (encN Ps)) := hx1
    rw [h0]
    clear h0 hx1 hr1
    go_wp2_with fail
    refine (refSum_any w1 a1 _ _ (encN Ps) rfl HX.out HL.out).mono ?_
    rintro e w2 ⟨rfl, rfl⟩
    rw [← HD.out]
    generalize hdn : digN Ps = dn at *
    clear HD HX
    go_wp2
    go_ret2
    exact ⟨by rw [HK.out, hdn]; rfl, HB1.out⟩
  · have HD : Hid (digN Ps = 0) := by show digN Ps = 0; unfold digN; rw [if_neg h0]
    have h0' : ((checkN Ps).2 != 0) = true := by simpa using h0
    generalize hc2 : (checkN Ps).2 = c2 at *
    clear h0 hx1 hr1
    go_wp2
    go_ret2
    exact ⟨by rw [HD.out, hc2]; rfl, HB1.out⟩
end Go.Proofs.YtkjmeknaedapjaaDoor
/-
  HOW THE DOCUMENT READS AN INSTRUCTION: it stops at the first error, and its step is the code's.
-/
namespace Go.Proofs.YtkjmeknaedapjaaDoor
open Go.RowKit Go.Sort

theorem rdByte_err (b : List Nat) (p : Nat) {e : Int} (h : e ≠ 0) : rdByte b p e = (0, p, e) := by unfold rdByte; rw [if_pos h]
theorem rdUpto_err (b : List Nat) (p : Nat) {e : Int} (most : Nat) (h : e ≠ 0) : rdUpto b p e most = (0, p, e) := by unfold rdUpto; rw [if_pos h]
theorem failE_err {e : Int} (x : Int) (h : e ≠ 0) : failE e x = e := by unfold failE; rw [if_neg h]
theorem unfold_zero : unfold 0 = 0 := by unfold unfold; simp
theorem getI_err (b : List Nat) (p : Nat) {e : Int} (h : e ≠ 0) : (getI b p e).2 = (p, e) := by
  unfold getI
  rw [rdByte_err b p h]
  have h2 : getE2 0 e = e := by unfold getE2; split; exact failE_err 31 h; rfl
  simp only [h2]
  unfold getT
  rw [if_neg (by decide)]
theorem getL_stuck (b : List Nat) (p : Nat) (e : Int) (k : Nat) (h : (getL b p e k).2.2 ≠ 0) : ∀ m, (getL b p e (k + m)).2 = (getL b p e k).2
  | 0 => rfl
  | m + 1 => by
    have ih := getL_stuck b p e k h m
    have h' : (getL b p e (k + m)).2.2 ≠ 0 := by rw [ih]; exact h
    show ((getI b (getL b p e (k + m)).2.1 (getL b p e (k + m)).2.2).2.1, (getI b (getL b p e (k + m)).2.1 (getL b p e (k + m)).2.2).2.2) = _
    rw [getI_err b _ h', ih]
theorem getL_stop (b : List Nat) (p : Nat) (e : Int) (k n : Nat) (hk : k ≤ n) (h : (getL b p e k).2.2 ≠ 0) : (getL b p e n).2 = (getL b p e k).2 := by
  obtain ⟨m, rfl⟩ := Nat.exists_eq_add_of_le hk
  exact getL_stuck b p e k h m
/-- the error behind an instruction's byte, in the document's words -/
theorem getE2_doc (z : Nat) (e : Int) : getE2 z e = if e = 0 ∧ (128 ≤ z ∨ 37 ≤ z % 64) then 31 else e := by
  have h1 : (isOpB ((z : Int) % 64) = false) ↔ 37 ≤ z % 64 := by
    unfold isOpB
    simp only [Bool.and_eq_false_iff, decide_eq_false_iff_not]
    omega
  unfold getE2 failE
  by_cases he : e = 0 <;> by_cases h2 : 128 ≤ z <;> by_cases h3 : 37 ≤ z % 64 <;> simp [he, h1, h2, h3]
/-- what follows the byte, in the document's words: e is the error behind the byte -/
theorem getT_doc (b : List Nat) (z p : Nat) (e : Int) (hz : 128 ≤ z → e ≠ 0) : getT b z p e = if 64 ≤ z then (((z : Int) % 64, unfold (rdUpto b p e 18446744073709551615).1), (rdUpto b p e 18446744073709551615).2.1, if (rdUpto b p e 18446744073709551615).2.2 = 0 ∧ unfold (rdUpto b p e 18446744073709551615).1 = 0 then 11 else (rdUpto b p e 18446744073709551615).2.2) else (((z : Int) % 64, 0), p, e) := by
  unfold getT
  by_cases h1 : 128 ≤ z
  · have he := hz h1
    rw [rdUpto_err b p _ he, if_pos (show 64 ≤ z by omega)]
    simp [unfold_zero, he, failE_err 11 he]
  · by_cases h2 : 64 ≤ z
    · rw [if_pos (show z / 64 % 2 = 1 by omega), if_pos h2]
      generalize rdUpto b p e 18446744073709551615 = u
      by_cases h3 : unfold u.1 = 0
      · rw [if_pos h3]
        unfold failE
        by_cases h4 : u.2.2 = 0
        · rw [if_pos h4, if_pos ⟨h4, h3⟩]
        · rw [if_neg h4, if_neg (fun h => h4 h.1)]
      · rw [if_neg h3, if_neg (fun h => h3 h.2)]
    · rw [if_neg (show ¬ z / 64 % 2 = 1 by omega), if_neg h2]
end Go.Proofs.YtkjmeknaedapjaaDoor
/-
  THE WALK OF preluderef01.number.
-/
namespace Go.Proofs.YtkjmeknaedapjaaDoor
open Go.RowKit

theorem add_low (acc c i : Nat) (ha : acc < 2 ^ (7 * i)) (hi : i ≤ 9) (h9 : i = 9 → c % 128 ≤ 1) : IntKind.u64.wrap ((acc : Int) + IntKind.u64.wrap ((c : Int) % 128 * 2 ^ (7 * i))) = ((acc + c % 128 * 2 ^ (7 * i) : Nat) : Int) := by
  have hl : acc + c % 128 * 2 ^ (7 * i) < 18446744073709551616 := by
    by_cases e : i = 9
    · subst e
      have := h9 rfl
      have : c % 128 * 2 ^ (7 * 9) ≤ 1 * 2 ^ (7 * 9) := Nat.mul_le_mul_right _ this
      omega
    · have h1 : 2 ^ (7 * i) ≤ 2 ^ 56 := Nat.pow_le_pow_right (by omega) (by omega)
      have h2 : c % 128 * 2 ^ (7 * i) ≤ 127 * 2 ^ 56 := Nat.mul_le_mul (by omega) h1
      omega
  have e1 : ((c : Int) % 128 * 2 ^ (7 * i)) = ((c % 128 * 2 ^ (7 * i) : Nat) : Int) := by simp
  rw [e1, IntKind.wrap_u64, IntKind.wrap_u64]
  generalize c % 128 * 2 ^ (7 * i) = x at *
  omega

set_option maxRecDepth 100000 in
set_option maxHeartbeats 1000000 in
theorem number_any (w : World) (b off cap n : Nat) (zs : List Nat) (hn : n = zs.length) (hb : BytesAt w (some ⟨b, off, none⟩) zs) (hm : zs.length ≤ maxLen) :
    Calls Tryd.prog 86 #[.slice (some ⟨b, off, none⟩) n cap] w fun e w' => e = .returned (.tuple #[.int .u64 (((scan zs).1 : Nat) : Int), .int .i64 (((scan zs).2.1 : Nat) : Int), .int .i64 (((scan zs).2.2 : Nat) : Int)]) ∧ w' = w := by
  subst hn
  have hz := hb.1
  have hc : ∀ j, j < zs.length → w.cell? ⟨b, off + j, none⟩ = some (.int .u8 ((zs.getD j 0 : Nat) : Int)) := by
    intro j hj
    obtain ⟨_, h0 | ⟨b', o', e, h1⟩⟩ := hb
    · rw [h0] at hj; simp at hj
    · simp only [Option.some.injEq, Addr.mk.injEq] at e
      obtain ⟨rfl, rfl, _⟩ := e
      exact h1 j hj
  clear hb
  unfold maxLen at hm
  go_enter Tryd.func86, Tryd.ntmps86
  go_wp2
  go_loop [5, 6] (fun n i => ∃ k acc : Nat, k ≤ zs.length ∧ k ≤ 9 ∧ i = .int .i64 k ∧ n = .int .u64 (acc : Int) ∧ acc < 2 ^ (7 * k) ∧ Hid (scan zs = scanFrom k acc (zs.drop k))) (fun _ i => zs.length - (intOf i).toNat)
  case atStart => exact ⟨0, 0, Nat.zero_le _, by omega, rfl, rfl, by simp, rfl⟩
  case round =>
    obtain ⟨k, acc, hk, hk9, rfl, rfl, hacc, hsc⟩ := hrel
    have hk10 : (k : Int) < 10 := by omega
    by_cases hlt : k < zs.length
    · have hcell := hc k hlt
      have hcb := getD_lt hz k
      have hkl : ((k : Int) == (zs.length : Int)) = false := by rw [beq_eq_false_iff_ne]; omega
      have HD : Hid (zs.drop k = zs.getD k 0 :: zs.drop (k + 1)) := by
        rw [Hid, List.drop_eq_getElem_cons hlt, List.getD_eq_getElem?_getD, List.getElem?_eq_getElem hlt]; rfl
      generalize zs.getD k 0 = c at *
      have HS : Hid (scan zs = if (k = 9 ∧ 1 < c) ∨ (0 < k ∧ c = 0) then (0, 0, 11) else if c < 128 then (acc + c * 2 ^ (7 * k), k + 1, 0) else scanFrom (k + 1) (acc + (c - 128) * 2 ^ (7 * k)) (zs.drop (k + 1))) := by
        rw [Hid, hsc.out, HD.out, scanFrom]
      clear hc hz
      by_cases hbad : (k = 9 ∧ 1 < c) ∨ (0 < k ∧ c = 0)
      · have HE : Hid (scan zs = (0, 0, 11)) := by rw [Hid, HS.out, if_pos hbad]
        by_cases h9 : k = 9
        · subst h9
          by_cases h1 : 1 < c
          · have h1' : (1 : Int) < (c : Int) := by omega
            clear hbad
            go_wp2
            go_ret3
            exact ⟨by rw [HE.out]; rfl, rfl⟩
          · obtain rfl : c = 0 := by omega
            clear hbad
            go_wp2
            go_ret3
            exact ⟨by rw [HE.out]; rfl, rfl⟩
        · have hk9' : ¬ (k : Int) = 9 := by omega
          obtain rfl : c = 0 := by omega
          have hk0 : (0 : Int) < (k : Int) := by omega
          clear hbad
          go_wp2
          go_ret3
          exact ⟨by rw [HE.out]; rfl, rfl⟩
      · have HG : Hid (scan zs = if c < 128 then (acc + c * 2 ^ (7 * k), k + 1, 0) else scanFrom (k + 1) (acc + (c - 128) * 2 ^ (7 * k)) (zs.drop (k + 1))) := by rw [Hid, HS.out, if_neg hbad]
        have HO : Hid (IntKind.u64.wrap ((acc : Int) + IntKind.u64.wrap ((c : Int) % 128 * 2 ^ (7 * k))) = ((acc + c % 128 * 2 ^ (7 * k) : Nat) : Int)) := add_low acc c k hacc hk9 (by omega)
        have HA : Hid (acc + (c - 128) * 2 ^ (7 * k) < 2 ^ (7 * (k + 1))) := by
          rw [Hid, pow7]
          have : (c - 128) * 2 ^ (7 * k) ≤ 127 * 2 ^ (7 * k) := Nat.mul_le_mul_right _ (by omega)
          omega
        by_cases hlow : c < 128
        · have HE : Hid (scan zs = (acc + c % 128 * 2 ^ (7 * k), k + 1, 0)) := by rw [Hid, HG.out, if_pos hlow, Nat.mod_eq_of_lt hlow]
          have hlow' : (c : Int) < 128 := by omega
          clear hlow
          have hgo : (k = 9 ∧ c = 1) ∨ (k ≠ 9 ∧ (k = 0 ∨ c ≠ 0)) := by omega
          clear hbad
          rcases hgo with ⟨rfl, rfl⟩ | ⟨h9, h0⟩
          · have HE9 : Hid (scan zs = (acc + 9223372036854775808, 10, 0)) := HE.out
            have HV : Hid ((acc : Int) + 9223372036854775808 = ((acc + 9223372036854775808 : Nat) : Int)) := by rw [Hid]; omega
            clear HE HO HA HG HS
            go_wp2
            go_ret3
            refine ⟨?_, rfl⟩
            show Ending.returned (.tuple #[.int .u64 ((acc : Int) + 9223372036854775808), .int .i64 10, .int .i64 0]) = _
            rw [HE9.out, HV.out]
            rfl
          · have hk9' : ¬ (k : Int) = 9 := by omega
            rcases h0 with hkz | h0
            · have hk0 : ¬ (0 : Int) < (k : Int) := by omega
              clear hkz
              go_wp2
              go_ret3
              exact ⟨by rw [HE.out, ← HO.out]; rfl, rfl⟩
            · have hc0 : ¬ (c : Int) = 0 := by omega
              by_cases hkk : k = 0
              · have hk0 : ¬ (0 : Int) < (k : Int) := by omega
                clear hkk
                go_wp2
                go_ret3
                exact ⟨by rw [HE.out, ← HO.out]; rfl, rfl⟩
              · have hk0 : (0 : Int) < (k : Int) := by omega
                go_wp2
                go_ret3
                exact ⟨by rw [HE.out, ← HO.out]; rfl, rfl⟩
        · have HE : Hid (scan zs = scanFrom (k + 1) (acc + c % 128 * 2 ^ (7 * k)) (zs.drop (k + 1))) := by rw [Hid, HG.out, if_neg hlow, show c - 128 = c % 128 by omega]
          have HA' : Hid (acc + c % 128 * 2 ^ (7 * k) < 2 ^ (7 * (k + 1))) := by rw [show c % 128 = c - 128 by omega]; exact HA
          have hlow' : ¬ (c : Int) < 128 := by omega
          have hk9' : ¬ (k : Int) = 9 := by omega
          have hc0 : ¬ (c : Int) = 0 := by omega
          have hk8 : k + 1 ≤ 9 := by omega
          clear hlow hbad
          by_cases hkk : k = 0
          · have hk0 : ¬ (0 : Int) < (k : Int) := by omega
            clear hkk
            go_wp2
            go_round
            case rel => exact ⟨k + 1, _, by omega, by omega, by go_num, by rw [HO.out], HA'.out, HE⟩
            case measure => simp [intOf]; omega
          · have hk0 : (0 : Int) < (k : Int) := by omega
            go_wp2
            go_round
            case rel => exact ⟨k + 1, _, by omega, by omega, by go_num, by rw [HO.out], HA'.out, HE⟩
            case measure => simp [intOf]; omega
    · have HE : Hid (scan zs = (0, 0, 10)) := by rw [Hid, hsc.out, List.drop_of_length_le (by omega)]; rfl
      obtain rfl : k = zs.length := by omega
      clear hc hz
      go_wp2
      go_ret3
      exact ⟨by rw [HE.out]; rfl, rfl⟩

end Go.Proofs.YtkjmeknaedapjaaDoor
