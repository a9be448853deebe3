import Derived.Test.YtcaibgbhebldmaaGreatJ07
import Derived.Test.YtcaibgbhebldmaaGreatJ02
/-
  PLAIN MATHEMATICS OF NUMBERS OF SEVEN BITS A BYTE (promises 1.1 to 1.5).
-/
namespace Go.Proofs.YtcaibgbhebldmaaGreat

/-- the number at the front of bytes, how many bytes it has, what is wrong: behind i bytes, which were acc -/
def scanFrom : Nat → Nat → List Nat → Nat × Nat × Nat
  | _, _, [] => (0, 0, 10)
  | i, acc, c :: r => if (i = 9 ∧ 1 < c) ∨ (0 < i ∧ c = 0) then (0, 0, 11) else if c < 128 then (acc + c * 2 ^ (7 * i), i + 1, 0) else scanFrom (i + 1) (acc + (c - 128) * 2 ^ (7 * i)) r
def scan (C : List Nat) : Nat × Nat × Nat := scanFrom 0 0 C

theorem pow7 (i : Nat) : 2 ^ (7 * (i + 1)) = 128 * 2 ^ (7 * i) := by rw [show 7 * (i + 1) = 7 + 7 * i by omega, Nat.pow_add]
/-- what was written is read -/
theorem scan_uint (R : List Nat) : ∀ (f i acc n : Nat), i + f = 9 → n < 2 ^ (64 - 7 * i) → (0 < i → 0 < n) → scanFrom i acc (uint (f + 1) n ++ R) = (acc + n * 2 ^ (7 * i), i + (uint (f + 1) n).length, 0)
  | f, i, acc, n, hif, hn, h0 => by
    by_cases hge : 128 ≤ n
    · have hi9 : i ≠ 9 := by
        intro e; subst e
        simp at hn; omega
      cases f with
      | zero => omega
      | succ f =>
        rw [uint_more _ _ hge, List.cons_append, scanFrom, if_neg (by omega), if_neg (by omega), Nat.add_sub_cancel]
        rw [scan_uint R f (i + 1) _ (n / 128) (by omega) (by
          have e : 2 ^ (64 - 7 * i) = 128 * 2 ^ (64 - 7 * (i + 1)) := by rw [show 64 - 7 * i = 7 + (64 - 7 * (i + 1)) by omega, Nat.pow_add]
          omega) (by omega)]
        rw [pow7, List.length_cons]
        have e1 : n = n % 128 + 128 * (n / 128) := by omega
        refine Prod.ext ?_ (Prod.ext (by simp only; omega) rfl)
        simp only
        conv => rhs; rw [e1, Nat.add_mul]
        rw [Nat.add_assoc, Nat.mul_comm 128 (n / 128), Nat.mul_assoc]
    · rw [uint_last _ _ hge, List.singleton_append, scanFrom, if_neg ?_, if_pos (by omega)]
      · rfl
      · rintro (⟨e, h⟩ | ⟨h1, h2⟩)
        · subst e; simp at hn; omega
        · have := h0 h1; omega
/-- what is read is what is written -/
theorem scan_back : ∀ (L : List Nat) (i acc n k : Nat), (∀ z ∈ L, z < 256) → i ≤ 9 → scanFrom i acc L = (n, k, 0) →
    ∃ m, n = acc + m * 2 ^ (7 * i) ∧ m < 2 ^ (64 - 7 * i) ∧ i < k ∧ k - i ≤ L.length ∧ L.take (k - i) = uint (10 - i) m ∧ (0 < i → 0 < m)
  | [], i, acc, n, k, _, _, h => by simp [scanFrom] at h
  | c :: r, i, acc, n, k, hz, hi, h => by
    unfold scanFrom at h
    by_cases h1 : (i = 9 ∧ 1 < c) ∨ (0 < i ∧ c = 0)
    · rw [if_pos h1] at h; simp at h
    · rw [if_neg h1] at h
      by_cases h2 : c < 128
      · rw [if_pos h2] at h
        simp only [Prod.mk.injEq, and_true] at h
        obtain ⟨rfl, rfl⟩ := h
        refine ⟨c, rfl, ?_, by omega, by simp, ?_, by omega⟩
        · by_cases e : i = 9
          · subst e; simp; omega
          · have : 2 ^ 7 ≤ 2 ^ (64 - 7 * i) := Nat.pow_le_pow_right (by omega) (by omega)
            omega
        · rw [Nat.add_sub_cancel_left, show 10 - i = (9 - i) + 1 by omega, uint_last _ _ (by omega)]; rfl
      · rw [if_neg h2] at h
        have hi9 : i ≠ 9 := by omega
        obtain ⟨m, hn, hm, hk, hl, ht, hp⟩ := scan_back r (i + 1) _ n k (fun z hz' => hz z (by simp [hz'])) (by omega) h
        have hc := hz c (by simp)
        refine ⟨(c - 128) + 128 * m, ?_, ?_, by omega, by simp; omega, ?_, by omega⟩
        · rw [hn, pow7, Nat.add_mul, Nat.add_assoc, Nat.mul_comm 128 m, Nat.mul_assoc]
        · have e : 2 ^ (64 - 7 * i) = 128 * 2 ^ (64 - 7 * (i + 1)) := by rw [show 64 - 7 * i = 7 + (64 - 7 * (i + 1)) by omega, Nat.pow_add]
          omega
        · have hmp := hp (by omega)
          rw [show k - i = (k - (i + 1)) + 1 by omega, List.take_succ_cons, ht, show 10 - i = (9 - i) + 1 by omega, uint_more _ _ (by omega)]
          rw [show ((c - 128) + 128 * m) % 128 + 128 = c by omega, show ((c - 128) + 128 * m) / 128 = m by omega, show 10 - (i + 1) = 9 - i by omega]
theorem scan_one (C : List Nat) (n k : Nat) (hz : ∀ z ∈ C, z < 256) (h : scan C = (n, k, 0)) : n < 18446744073709551616 ∧ 0 < k ∧ k ≤ C.length ∧ C.take k = uint 10 n := by
  obtain ⟨m, hn, hm, hk, hl, ht, _⟩ := scan_back C 0 0 n k hz (by omega) h
  simp only [Nat.zero_add, Nat.mul_zero, Nat.pow_zero, Nat.mul_one, Nat.sub_zero] at *
  subst hn
  exact ⟨hm, hk, hl, ht⟩
theorem scan_err : ∀ (L : List Nat) (i acc : Nat), (scanFrom i acc L).2.2 ≠ 0 → (scanFrom i acc L).1 = 0 ∧ (scanFrom i acc L).2.1 = 0
  | [], i, acc, _ => by simp [scanFrom]
  | c :: r, i, acc, h => by
    unfold scanFrom at h ⊢
    split
    · simp
    · rename_i h1
      rw [if_neg h1] at h
      split
      · rename_i h2; rw [if_pos h2] at h; simp at h
      · rename_i h2; rw [if_neg h2] at h; exact scan_err r _ _ h

end Go.Proofs.YtcaibgbhebldmaaGreat
/-
  PLAIN MATHEMATICS OF RECORDS (promises 1.7, 1.8). No program, no dump.
-/
namespace Go.Proofs.YtcaibgbhebldmaaGreat.Rec

/-- a number as four bytes, the lowest first -/
def le4 (n : Nat) : List Nat := [n % 256, n / 256 % 256, n / 65536 % 256, n / 16777216 % 256]
/-- the number that the first four bytes are -/
def un4 (L : List Nat) : Nat := L.getD 0 0 + 256 * L.getD 1 0 + 65536 * L.getD 2 0 + 16777216 * L.getD 3 0
def head (kind n : Nat) : List Nat := kind :: le4 n
/-- a record: 1.7 -/
def sealed (kind : Nat) (load : List Nat) : List Nat := head kind load.length ++ le4 (Crc.sum (head kind load.length)) ++ load ++ le4 (Crc.sum load)
/-- kind, load, place behind, error: 1.8 -/
def opened (b : List Nat) (place : Int) : Nat × List Nat × Int × Int :=
  if place < 0 ∨ (b.length : Int) < place then (0, [], 0, 11) else
  if (b.drop place.toNat).length < 9 then (0, [], 0, 10) else
  if Crc.sum ((b.drop place.toNat).take 5) ≠ un4 ((b.drop place.toNat).drop 5) then (0, [], 0, 13) else
  if 16777216 < un4 ((b.drop place.toNat).drop 1) then (0, [], 0, 12) else
  if (b.drop place.toNat).length < un4 ((b.drop place.toNat).drop 1) + 13 then (0, [], 0, 10) else
  if Crc.sum (((b.drop place.toNat).drop 9).take (un4 ((b.drop place.toNat).drop 1))) ≠ un4 ((b.drop place.toNat).drop (9 + un4 ((b.drop place.toNat).drop 1))) then (0, [], 0, 13) else
  ((b.drop place.toNat).getD 0 0, ((b.drop place.toNat).drop 9).take (un4 ((b.drop place.toNat).drop 1)), place + un4 ((b.drop place.toNat).drop 1) + 13, 0)

theorem le4_lt (n : Nat) : ∀ z ∈ le4 n, z < 256 := by
  intro z hz
  simp only [le4, List.mem_cons, List.not_mem_nil, or_false] at hz
  omega
theorem le4_length (n : Nat) : (le4 n).length = 4 := rfl
theorem un4_le4 (n : Nat) (h : n < 4294967296) (R : List Nat) : un4 (le4 n ++ R) = n := by
  simp [un4, le4]
  omega
theorem getD_lt {L : List Nat} (h : ∀ z ∈ L, z < 256) (j : Nat) : L.getD j 0 < 256 := by
  rw [List.getD_eq_getElem?_getD]
  cases e : L[j]? with
  | none => simp
  | some z => simpa using h z (List.mem_of_getElem? e)
theorem un4_lt {L : List Nat} (h : ∀ z ∈ L, z < 256) : un4 L < 4294967296 := by
  have h0 := getD_lt h 0
  have h1 := getD_lt h 1
  have h2 := getD_lt h 2
  have h3 := getD_lt h 3
  unfold un4
  omega
theorem sum_lt {L : List Nat} : Crc.sum L < 4294967296 := by unfold Crc.sum; omega
theorem head_lt {kind n : Nat} (hk : kind < 256) : ∀ z ∈ head kind n, z < 256 := by
  intro z hz
  rcases List.mem_cons.1 hz with rfl | h
  · exact hk
  · exact le4_lt n z h
theorem sealed_lt {kind : Nat} {load : List Nat} (hk : kind < 256) (hl : ∀ z ∈ load, z < 256) : ∀ z ∈ sealed kind load, z < 256 := by
  intro z hz
  simp only [sealed, List.mem_append] at hz
  rcases hz with ((h | h) | h) | h
  · exact head_lt hk z h
  · exact le4_lt _ z h
  · exact hl z h
  · exact le4_lt _ z h
theorem sealed_length (kind : Nat) (load : List Nat) : (sealed kind load).length = load.length + 13 := by
  simp [sealed, head, le4]
/-- disjoint bits: 'or' is '+' -/
theorem or_add (a b k : Nat) (h : a < 2 ^ k) : a ||| 2 ^ k * b = a + 2 ^ k * b := by
  have e := Crc.low_high k (a + 2 ^ k * b)
  rw [Nat.add_mul_mod_self_left, Nat.mod_eq_of_lt h, Nat.add_mul_div_left _ _ (Nat.two_pow_pos k), Nat.div_eq_of_lt h, Nat.zero_add] at e
  rw [e]
  apply Nat.eq_of_testBit_eq
  intro i
  rw [Nat.testBit_or, Nat.testBit_xor, Nat.testBit_two_pow_mul]
  by_cases hi : k ≤ i
  · have : a.testBit i = false := Nat.testBit_lt_two_pow (Nat.lt_of_lt_of_le h (Nat.pow_le_pow_right (by omega) hi))
    simp [this]
  · simp [hi]
theorem or4 (a b c d : Nat) (ha : a < 256) (hb : b < 256) (hc : c < 256) : ((a ||| 256 * b) ||| 65536 * c) ||| 16777216 * d = a + 256 * b + 65536 * c + 16777216 * d := by
  have h1 := or_add a b 8 (by omega)
  have h2 := or_add (a + 256 * b) c 16 (by omega)
  have h3 := or_add (a + 256 * b + 65536 * c) d 24 (by omega)
  rw [show (2 : Nat) ^ 8 = 256 from rfl] at h1
  rw [show (2 : Nat) ^ 16 = 65536 from rfl] at h2
  rw [show (2 : Nat) ^ 24 = 16777216 from rfl] at h3
  rw [h1, h2, h3]

end Go.Proofs.YtcaibgbhebldmaaGreat.Rec
/-
  THE WALK OF codec.scan.
-/
namespace Go.Proofs.YtcaibgbhebldmaaGreat
open Go.RowKit

theorem u8_and127 (c : Nat) (hc : c < 256) : bits .and .u8 (c : Int) 127 = ((c % 128 : Nat) : Int) := by
  have h := u8_and_nat c 127 hc (by omega)
  rw [show (127 : Nat) = 2 ^ 7 - 1 from rfl, Nat.and_two_pow_sub_one_eq_mod] at h
  exact h
theorem or_low (acc c i : Nat) (ha : acc < 2 ^ (7 * i)) (hi : i ≤ 9) (h9 : i = 9 → c % 128 ≤ 1) : bits .or .u64 (acc : Int) (IntKind.u64.wrap ((c : Int) % 128 * 2 ^ (7 * i))) = ((acc + c % 128 * 2 ^ (7 * i) : Nat) : Int) := by
  have hl : c % 128 * 2 ^ (7 * i) < 18446744073709551616 := by
    by_cases e : i = 9
    · subst e
      have := h9 rfl
      have : c % 128 * 2 ^ (7 * 9) ≤ 1 * 2 ^ (7 * 9) := Nat.mul_le_mul_right _ this
      omega
    · have h1 : 2 ^ (7 * i) ≤ 2 ^ 56 := Nat.pow_le_pow_right (by omega) (by omega)
      have h2 : c % 128 * 2 ^ (7 * i) ≤ 127 * 2 ^ 56 := Nat.mul_le_mul (by omega) h1
      omega
  have ha' : acc < 18446744073709551616 := by
    have : 2 ^ (7 * i) ≤ 2 ^ 63 := Nat.pow_le_pow_right (by omega) (by omega)
    omega
  have e1 : ((c : Int) % 128 * 2 ^ (7 * i)) = ((c % 128 * 2 ^ (7 * i) : Nat) : Int) := by simp
  rw [e1, IntKind.wrap_u64]
  generalize hx : c % 128 * 2 ^ (7 * i) = x at *
  rw [show ((x : Int) % 18446744073709551616) = (x : Int) by omega, u64_or_nat acc x ha' hl, ← hx, Nat.mul_comm (c % 128), Rec.or_add acc (c % 128) (7 * i) ha]

set_option maxRecDepth 100000 in
set_option maxHeartbeats 1000000 in
theorem scan_cells (w : World) (b off cap : Nat) (zs : List Nat) (hz : ∀ z ∈ zs, z < 256) (hm : zs.length ≤ maxLen)
    (hc : ∀ j, j < zs.length → w.cell? ⟨b, off + j, none⟩ = some (.int .u8 ((zs.getD j 0 : Nat) : Int))) :
    Calls Tryz.prog 95 #[.slice (some ⟨b, off, none⟩) zs.length cap] w fun e w' => e = .returned (.tuple #[.int .u64 (((scan zs).1 : Nat) : Int), .int .i64 (((scan zs).2.1 : Nat) : Int), .int .i64 (((scan zs).2.2 : Nat) : Int)]) ∧ w' = w := by
  unfold maxLen at hm
  go_enter Tryz.func95, Tryz.ntmps95
  go_wp2
  go_loop [5, 10] (fun n i => ∃ k acc : Nat, k ≤ zs.length ∧ k ≤ 9 ∧ i = .int .i64 k ∧ n = .int .u64 (acc : Int) ∧ acc < 2 ^ (7 * k) ∧ Hid (scan zs = scanFrom k acc (zs.drop k))) (fun _ i => zs.length - (intOf i).toNat)
  case atStart => exact ⟨0, 0, Nat.zero_le _, by omega, rfl, rfl, by simp, rfl⟩
  case round =>
    obtain ⟨k, acc, hk, hk9, rfl, rfl, hacc, hsc⟩ := hrel
    by_cases hlt : k < zs.length
    · have hcell := hc k hlt
      have hcb := getD_lt hz k
      have HD : Hid (zs.drop k = zs.getD k 0 :: zs.drop (k + 1)) := by
        rw [Hid, List.drop_eq_getElem_cons hlt, List.getD_eq_getElem?_getD, List.getElem?_eq_getElem hlt]; rfl
      generalize zs.getD k 0 = c at *
      have HS : Hid (scan zs = if (k = 9 ∧ 1 < c) ∨ (0 < k ∧ c = 0) then (0, 0, 11) else if c < 128 then (acc + c * 2 ^ (7 * k), k + 1, 0) else scanFrom (k + 1) (acc + (c - 128) * 2 ^ (7 * k)) (zs.drop (k + 1))) := by
        rw [Hid, hsc.out, HD.out, scanFrom]
      clear hc hz
      have hand := u8_and127 c hcb
      by_cases hbad : (k = 9 ∧ 1 < c) ∨ (0 < k ∧ c = 0)
      · have HE : Hid (scan zs = (0, 0, 11)) := by rw [Hid, HS.out, if_pos hbad]
        by_cases h9 : k = 9
        · subst h9
          by_cases h1 : 1 < c
          · have h1' : (1 : Int) < (c : Int) := by omega
            clear hbad
            go_wp2
            go_ret3
            exact ⟨by rw [HE.out]; rfl, rfl⟩
          · obtain rfl : c = 0 := by omega
            clear hbad
            go_wp2
            go_ret3
            exact ⟨by rw [HE.out]; rfl, rfl⟩
        · have hk9' : ¬ (k : Int) = 9 := by omega
          obtain rfl : c = 0 := by omega
          have hk0 : (0 : Int) < (k : Int) := by omega
          clear hbad
          go_wp2
          go_ret3
          exact ⟨by rw [HE.out]; rfl, rfl⟩
      · have HG : Hid (scan zs = if c < 128 then (acc + c * 2 ^ (7 * k), k + 1, 0) else scanFrom (k + 1) (acc + (c - 128) * 2 ^ (7 * k)) (zs.drop (k + 1))) := by rw [Hid, HS.out, if_neg hbad]
        have HO : Hid (bits .or .u64 (acc : Int) (IntKind.u64.wrap ((c : Int) % 128 * 2 ^ (7 * k))) = ((acc + c % 128 * 2 ^ (7 * k) : Nat) : Int)) := or_low acc c k hacc hk9 (by omega)
        have HA : Hid (acc + (c - 128) * 2 ^ (7 * k) < 2 ^ (7 * (k + 1))) := by
          rw [Hid, pow7]
          have : (c - 128) * 2 ^ (7 * k) ≤ 127 * 2 ^ (7 * k) := Nat.mul_le_mul_right _ (by omega)
          omega
        by_cases hlow : c < 128
        · have HE : Hid (scan zs = (acc + c % 128 * 2 ^ (7 * k), k + 1, 0)) := by rw [Hid, HG.out, if_pos hlow, Nat.mod_eq_of_lt hlow]
          have hlow' : (c : Int) < 128 := by omega
          clear hlow
          have hgo : (k = 9 ∧ c = 1) ∨ (k ≠ 9 ∧ (k = 0 ∨ c ≠ 0)) := by omega
          clear hbad
          rcases hgo with ⟨rfl, rfl⟩ | ⟨h9, h0⟩
          · go_wp2
            go_ret3
            exact ⟨by rw [HE.out, ← HO.out]; rfl, rfl⟩
          · have hk9' : ¬ (k : Int) = 9 := by omega
            rcases h0 with hkz | h0
            · have hk0 : ¬ (0 : Int) < (k : Int) := by omega
              clear hkz
              go_wp2
              go_ret3
              exact ⟨by rw [HE.out, ← HO.out]; rfl, rfl⟩
            · have hc0 : ¬ (c : Int) = 0 := by omega
              by_cases hkk : k = 0
              · have hk0 : ¬ (0 : Int) < (k : Int) := by omega
                clear hkk
                go_wp2
                go_ret3
                exact ⟨by rw [HE.out, ← HO.out]; rfl, rfl⟩
              · have hk0 : (0 : Int) < (k : Int) := by omega
                go_wp2
                go_ret3
                exact ⟨by rw [HE.out, ← HO.out]; rfl, rfl⟩
        · have HE : Hid (scan zs = scanFrom (k + 1) (acc + c % 128 * 2 ^ (7 * k)) (zs.drop (k + 1))) := by rw [Hid, HG.out, if_neg hlow, show c - 128 = c % 128 by omega]
          have HA' : Hid (acc + c % 128 * 2 ^ (7 * k) < 2 ^ (7 * (k + 1))) := by rw [show c % 128 = c - 128 by omega]; exact HA
          have hlow' : ¬ (c : Int) < 128 := by omega
          have hk9' : ¬ (k : Int) = 9 := by omega
          have hc0 : ¬ (c : Int) = 0 := by omega
          have hk8 : k + 1 ≤ 9 := by omega
          clear hlow hbad
          by_cases hkk : k = 0
          · have hk0 : ¬ (0 : Int) < (k : Int) := by omega
            clear hkk
            go_wp2
            go_round
            case rel => exact ⟨k + 1, _, by omega, by omega, by go_num, by rw [HO.out], HA'.out, HE⟩
            case measure => simp [intOf]; omega
          · have hk0 : (0 : Int) < (k : Int) := by omega
            go_wp2
            go_round
            case rel => exact ⟨k + 1, _, by omega, by omega, by go_num, by rw [HO.out], HA'.out, HE⟩
            case measure => simp [intOf]; omega
    · have HE : Hid (scan zs = (0, 0, 10)) := by rw [Hid, hsc.out, List.drop_of_length_le (by omega)]; rfl
      clear hc hz
      go_wp2
      go_ret3
      exact ⟨by rw [HE.out]; rfl, rfl⟩

/-- codec.scan, whatever slice of bytes. -/
theorem scan_any (w : World) (ao : Option Addr) (cap n : Nat) (zs : List Nat) (hn : n = zs.length) (h : BytesAt w ao zs) (hm : zs.length ≤ maxLen) :
    Calls Tryz.prog 95 #[.slice ao n cap] w fun e w' => e = .returned (.tuple #[.int .u64 (((scan zs).1 : Nat) : Int), .int .i64 (((scan zs).2.1 : Nat) : Int), .int .i64 (((scan zs).2.2 : Nat) : Int)]) ∧ w' = w := by
  subst hn
  obtain ⟨hz, rfl | ⟨b, off, rfl, hc⟩⟩ := h
  · go_enter Tryz.func95, Tryz.ntmps95
    go_wp2
    go_loop [5, 10] (fun n i => i = .int .i64 0 ∧ n = .int .u64 0) (fun _ i => 0 - (intOf i).toNat)
    case atStart => exact ⟨rfl, rfl⟩
    case round =>
      obtain ⟨rfl, rfl⟩ := hrel
      go_wp2
      go_ret3
      exact ⟨rfl, rfl⟩
  · exact scan_cells w b off cap zs hz hm hc

end Go.Proofs.YtcaibgbhebldmaaGreat
