import Derived.Test.YtkjmeknaedapjaaDoorK16
import Derived.Test.YtkjmeknaedapjaaDoorK19
import Derived.Deep.QuietTactic
/-
  PLAIN MATHEMATICS OF RECORDS (promises 1.7, 1.8). No program, no dump.
-/
namespace Go.Proofs.YtkjmeknaedapjaaDoor.Rec

/-- a number as four bytes, the lowest first -/
def le4 (n : Nat) : List Nat := [n % 256, n / 256 % 256, n / 65536 % 256, n / 16777216 % 256]
/-- the number that the first four bytes are -/
def un4 (L : List Nat) : Nat := L.getD 0 0 + 256 * L.getD 1 0 + 65536 * L.getD 2 0 + 16777216 * L.getD 3 0
def head (kind n : Nat) : List Nat := kind :: le4 n
/-- a record: 1.7 -/
def sealed (kind : Nat) (load : List Nat) : List Nat := head kind load.length ++ le4 (Crc.sum (head kind load.length)) ++ load ++ le4 (Crc.sum load)
/-- kind, load, place behind, error: 1.8 -/
def opened (b : List Nat) (place : Int) : Nat × List Nat × Int × Int :=
  if place < 0 ∨ (b.length : Int) < place then (0, [], 0, 11) else
  if (b.drop place.toNat).length < 9 then (0, [], 0, 10) else
  if Crc.sum ((b.drop place.toNat).take 5) ≠ un4 ((b.drop place.toNat).drop 5) then (0, [], 0, 13) else
  if 16777216 < un4 ((b.drop place.toNat).drop 1) then (0, [], 0, 12) else
  if (b.drop place.toNat).length < un4 ((b.drop place.toNat).drop 1) + 13 then (0, [], 0, 10) else
  if Crc.sum (((b.drop place.toNat).drop 9).take (un4 ((b.drop place.toNat).drop 1))) ≠ un4 ((b.drop place.toNat).drop (9 + un4 ((b.drop place.toNat).drop 1))) then (0, [], 0, 13) else
  ((b.drop place.toNat).getD 0 0, ((b.drop place.toNat).drop 9).take (un4 ((b.drop place.toNat).drop 1)), place + un4 ((b.drop place.toNat).drop 1) + 13, 0)

theorem le4_lt (n : Nat) : ∀ z ∈ le4 n, z < 256 := by
  intro z hz
  simp only [le4, List.mem_cons, List.not_mem_nil, or_false] at hz
  omega
theorem le4_length (n : Nat) : (le4 n).length = 4 := rfl
theorem un4_le4 (n : Nat) (h : n < 4294967296) (R : List Nat) : un4 (le4 n ++ R) = n := by
  simp [un4, le4]
  omega
theorem getD_lt {L : List Nat} (h : ∀ z ∈ L, z < 256) (j : Nat) : L.getD j 0 < 256 := by
  rw [List.getD_eq_getElem?_getD]
  cases e : L[j]? with
  | none => simp
  | some z => simpa using h z (List.mem_of_getElem? e)
theorem un4_lt {L : List Nat} (h : ∀ z ∈ L, z < 256) : un4 L < 4294967296 := by
  have h0 := getD_lt h 0
  have h1 := getD_lt h 1
  have h2 := getD_lt h 2
  have h3 := getD_lt h 3
  unfold un4
  omega
theorem sum_lt {L : List Nat} : Crc.sum L < 4294967296 := by unfold Crc.sum; omega
theorem head_lt {kind n : Nat} (hk : kind < 256) : ∀ z ∈ head kind n, z < 256 := by
  intro z hz
  rcases List.mem_cons.1 hz with rfl | h
  · exact hk
  · exact le4_lt n z h
theorem sealed_lt {kind : Nat} {load : List Nat} (hk : kind < 256) (hl : ∀ z ∈ load, z < 256) : ∀ z ∈ sealed kind load, z < 256 := by
  intro z hz
  simp only [sealed, List.mem_append] at hz
  rcases hz with ((h | h) | h) | h
  · exact head_lt hk z h
  · exact le4_lt _ z h
  · exact hl z h
  · exact le4_lt _ z h
theorem sealed_length (kind : Nat) (load : List Nat) : (sealed kind load).length = load.length + 13 := by
  simp [sealed, head, le4]
/-- disjoint bits: 'or' is '+' -/
theorem or_add (a b k : Nat) (h : a < 2 ^ k) : a ||| 2 ^ k * b = a + 2 ^ k * b := by
  have e := Crc.low_high k (a + 2 ^ k * b)
  rw [Nat.add_mul_mod_self_left, Nat.mod_eq_of_lt h, Nat.add_mul_div_left _ _ (Nat.two_pow_pos k), Nat.div_eq_of_lt h, Nat.zero_add] at e
  rw [e]
  apply Nat.eq_of_testBit_eq
  intro i
  rw [Nat.testBit_or, Nat.testBit_xor, Nat.testBit_two_pow_mul]
  by_cases hi : k ≤ i
  · have : a.testBit i = false := Nat.testBit_lt_two_pow (Nat.lt_of_lt_of_le h (Nat.pow_le_pow_right (by omega) hi))
    simp [this]
  · simp [hi]
theorem or4 (a b c d : Nat) (ha : a < 256) (hb : b < 256) (hc : c < 256) : ((a ||| 256 * b) ||| 65536 * c) ||| 16777216 * d = a + 256 * b + 65536 * c + 16777216 * d := by
  have h1 := or_add a b 8 (by omega)
  have h2 := or_add (a + 256 * b) c 16 (by omega)
  have h3 := or_add (a + 256 * b + 65536 * c) d 24 (by omega)
  rw [show (2 : Nat) ^ 8 = 256 from rfl] at h1
  rw [show (2 : Nat) ^ 16 = 65536 from rfl] at h2
  rw [show (2 : Nat) ^ 24 = 16777216 from rfl] at h3
  rw [h1, h2, h3]

end Go.Proofs.YtkjmeknaedapjaaDoor.Rec
/-
  THE WALK OF codec.scan.
-/
namespace Go.Proofs.YtkjmeknaedapjaaDoor
open Go.RowKit

theorem u8_and127 (c : Nat) (hc : c < 256) : bits .and .u8 (c : Int) 127 = ((c % 128 : Nat) : Int) := by
  have h := u8_and_nat c 127 hc (by omega)
  rw [show (127 : Nat) = 2 ^ 7 - 1 from rfl, Nat.and_two_pow_sub_one_eq_mod] at h
  exact h
theorem or_low (acc c i : Nat) (ha : acc < 2 ^ (7 * i)) (hi : i ≤ 9) (h9 : i = 9 → c % 128 ≤ 1) : bits .or .u64 (acc : Int) (IntKind.u64.wrap ((c : Int) % 128 * 2 ^ (7 * i))) = ((acc + c % 128 * 2 ^ (7 * i) : Nat) : Int) := by
  have hl : c % 128 * 2 ^ (7 * i) < 18446744073709551616 := by
    by_cases e : i = 9
    · subst e
      have := h9 rfl
      have : c % 128 * 2 ^ (7 * 9) ≤ 1 * 2 ^ (7 * 9) := Nat.mul_le_mul_right _ this
      omega
    · have h1 : 2 ^ (7 * i) ≤ 2 ^ 56 := Nat.pow_le_pow_right (by omega) (by omega)
      have h2 : c % 128 * 2 ^ (7 * i) ≤ 127 * 2 ^ 56 := Nat.mul_le_mul (by omega) h1
      omega
  have ha' : acc < 18446744073709551616 := by
    have : 2 ^ (7 * i) ≤ 2 ^ 63 := Nat.pow_le_pow_right (by omega) (by omega)
    omega
  have e1 : ((c : Int) % 128 * 2 ^ (7 * i)) = ((c % 128 * 2 ^ (7 * i) : Nat) : Int) := by simp
  rw [e1, IntKind.wrap_u64]
  generalize hx : c % 128 * 2 ^ (7 * i) = x at *
  rw [show ((x : Int) % 18446744073709551616) = (x : Int) by omega, u64_or_nat acc x ha' hl, ← hx, Nat.mul_comm (c % 128), Rec.or_add acc (c % 128) (7 * i) ha]

set_option maxRecDepth 100000 in
set_option maxHeartbeats 1000000 in
theorem scan_cells (w : World) (b off cap : Nat) (zs : List Nat) (hz : ∀ z ∈ zs, z < 256) (hm : zs.length ≤ maxLen)
    (hc : ∀ j, j < zs.length → w.cell? ⟨b, off + j, none⟩ = some (.int .u8 ((zs.getD j 0 : Nat) : Int))) :
    Calls Tryd.prog 64 #[.slice (some ⟨b, off, none⟩) zs.length cap] w fun e w' => e = .returned (.tuple #[.int .u64 (((scan zs).1 : Nat) : Int), .int .i64 (((scan zs).2.1 : Nat) : Int), .int .i64 (((scan zs).2.2 : Nat) : Int)]) ∧ w' = w := by
  unfold maxLen at hm
  go_enter Tryd.func64, Tryd.ntmps64
  go_wp2
  go_loop [5, 10] (fun n i => ∃ k acc : Nat, k ≤ zs.length ∧ k ≤ 9 ∧ i = .int .i64 k ∧ n = .int .u64 (acc : Int) ∧ acc < 2 ^ (7 * k) ∧ Hid (scan zs = scanFrom k acc (zs.drop k))) (fun _ i => zs.length - (intOf i).toNat)
  case atStart => exact ⟨0, 0, Nat.zero_le _, by omega, rfl, rfl, by simp, rfl⟩
  case round =>
    obtain ⟨k, acc, hk, hk9, rfl, rfl, hacc, hsc⟩ := hrel
    by_cases hlt : k < zs.length
    · have hcell := hc k hlt
      have hcb := getD_lt hz k
      have HD : Hid (zs.drop k = zs.getD k 0 :: zs.drop (k + 1)) := by
        rw [Hid, List.drop_eq_getElem_cons hlt, List.getD_eq_getElem?_getD, List.getElem?_eq_getElem hlt]; rfl
      generalize zs.getD k 0 = c at *
      have HS : Hid (scan zs = if (k = 9 ∧ 1 < c) ∨ (0 < k ∧ c = 0) then (0, 0, 11) else if c < 128 then (acc + c * 2 ^ (7 * k), k + 1, 0) else scanFrom (k + 1) (acc + (c - 128) * 2 ^ (7 * k)) (zs.drop (k + 1))) := by
        rw [Hid, hsc.out, HD.out, scanFrom]
      clear hc hz
      have hand := u8_and127 c hcb
      by_cases hbad : (k = 9 ∧ 1 < c) ∨ (0 < k ∧ c = 0)
      · have HE : Hid (scan zs = (0, 0, 11)) := by rw [Hid, HS.out, if_pos hbad]
        by_cases h9 : k = 9
        · subst h9
          by_cases h1 : 1 < c
          · have h1' : (1 : Int) < (c : Int) := by omega
            clear hbad
            go_wp2
            go_ret3
            exact ⟨by rw [HE.out]; rfl, rfl⟩
          · obtain rfl : c = 0 := by omega
            clear hbad
            go_wp2
            go_ret3
            exact ⟨by rw [HE.out]; rfl, rfl⟩
        · have hk9' : ¬ (k : Int) = 9 := by omega
          obtain rfl : c = 0 := by omega
          have hk0 : (0 : Int) < (k : Int) := by omega
          clear hbad
          go_wp2
          go_ret3
          exact ⟨by rw [HE.out]; rfl, rfl⟩
      · have HG : Hid (scan zs = if c < 128 then (acc + c * 2 ^ (7 * k), k + 1, 0) else scanFrom (k + 1) (acc + (c - 128) * 2 ^ (7 * k)) (zs.drop (k + 1))) := by rw [Hid, HS.out, if_neg hbad]
        have HO : Hid (bits .or .u64 (acc : Int) (IntKind.u64.wrap ((c : Int) % 128 * 2 ^ (7 * k))) = ((acc + c % 128 * 2 ^ (7 * k) : Nat) : Int)) := or_low acc c k hacc hk9 (by omega)
        have HA : Hid (acc + (c - 128) * 2 ^ (7 * k) < 2 ^ (7 * (k + 1))) := by
          rw [Hid, pow7]
          have : (c - 128) * 2 ^ (7 * k) ≤ 127 * 2 ^ (7 * k) := Nat.mul_le_mul_right _ (by omega)
          omega
        by_cases hlow : c < 128
        · have HE : Hid (scan zs = (acc + c % 128 * 2 ^ (7 * k), k + 1, 0)) := by rw [Hid, HG.out, if_pos hlow, Nat.mod_eq_of_lt hlow]
          have hlow' : (c : Int) < 128 := by omega
          clear hlow
          have hgo : (k = 9 ∧ c = 1) ∨ (k ≠ 9 ∧ (k = 0 ∨ c ≠ 0)) := by omega
          clear hbad
          rcases hgo with ⟨rfl, rfl⟩ | ⟨h9, h0⟩
          · go_wp2
            go_ret3
            exact ⟨by rw [HE.out, ← HO.out]; rfl, rfl⟩
          · have hk9' : ¬ (k : Int) = 9 := by omega
            rcases h0 with hkz | h0
            · have hk0 : ¬ (0 : Int) < (k : Int) := by omega
              clear hkz
              go_wp2
              go_ret3
              exact ⟨by rw [HE.out, ← HO.out]; rfl, rfl⟩
            · have hc0 : ¬ (c : Int) = 0 := by omega
              by_cases hkk : k = 0
              · have hk0 : ¬ (0 : Int) < (k : Int) := by omega
                clear hkk
                go_wp2
                go_ret3
                exact ⟨by rw [HE.out, ← HO.out]; rfl, rfl⟩
              · have hk0 : (0 : Int) < (k : Int) := by omega
                go_wp2
                go_ret3
                exact ⟨by rw [HE.out, ← HO.out]; rfl, rfl⟩
        · have HE : Hid (scan zs = scanFrom (k + 1) (acc + c % 128 * 2 ^ (7 * k)) (zs.drop (k + 1))) := by rw [Hid, HG.out, if_neg hlow, show c - 128 = c % 128 by omega]
          have HA' : Hid (acc + c % 128 * 2 ^ (7 * k) < 2 ^ (7 * (k + 1))) := by rw [show c % 128 = c - 128 by omega]; exact HA
          have hlow' : ¬ (c : Int) < 128 := by omega
          have hk9' : ¬ (k : Int) = 9 := by omega
          have hc0 : ¬ (c : Int) = 0 := by omega
          have hk8 : k + 1 ≤ 9 := by omega
          clear hlow hbad
          by_cases hkk : k = 0
          · have hk0 : ¬ (0 : Int) < (k : Int) := by omega
            clear hkk
            go_wp2
            go_round
            case rel => exact ⟨k + 1, _, by omega, by omega, by go_num, by rw [HO.out], HA'.out, HE⟩
            case measure => simp [intOf]; omega
          · have hk0 : (0 : Int) < (k : Int) := by omega
            go_wp2
            go_round
            case rel => exact ⟨k + 1, _, by omega, by omega, by go_num, by rw [HO.out], HA'.out, HE⟩
            case measure => simp [intOf]; omega
    · have HE : Hid (scan zs = (0, 0, 10)) := by rw [Hid, hsc.out, List.drop_of_length_le (by omega)]; rfl
      clear hc hz
      go_wp2
      go_ret3
      exact ⟨by rw [HE.out]; rfl, rfl⟩

/-- codec.scan, whatever slice of bytes. -/
theorem scan_any (w : World) (ao : Option Addr) (cap n : Nat) (zs : List Nat) (hn : n = zs.length) (h : BytesAt w ao zs) (hm : zs.length ≤ maxLen) :
    Calls Tryd.prog 64 #[.slice ao n cap] w fun e w' => e = .returned (.tuple #[.int .u64 (((scan zs).1 : Nat) : Int), .int .i64 (((scan zs).2.1 : Nat) : Int), .int .i64 (((scan zs).2.2 : Nat) : Int)]) ∧ w' = w := by
  subst hn
  obtain ⟨hz, rfl | ⟨b, off, rfl, hc⟩⟩ := h
  · go_enter Tryd.func64, Tryd.ntmps64
    go_wp2
    go_loop [5, 10] (fun n i => i = .int .i64 0 ∧ n = .int .u64 0) (fun _ i => 0 - (intOf i).toNat)
    case atStart => exact ⟨rfl, rfl⟩
    case round =>
      obtain ⟨rfl, rfl⟩ := hrel
      go_wp2
      go_ret3
      exact ⟨rfl, rfl⟩
  · exact scan_cells w b off cap zs hz hm hc

end Go.Proofs.YtkjmeknaedapjaaDoor
/-
  THE WALKS OF codec.Reader's METHODS.
-/
namespace Go.Proofs.YtkjmeknaedapjaaDoor
open Go.RowKit

theorem BytesAt.cut {w : World} {b off : Nat} {zs : List Nat} (h : BytesAt w (some ⟨b, off, none⟩) zs) (i n : Nat) : BytesAt w (some ⟨b, off + i, none⟩) ((zs.drop i).take n) := by
  obtain ⟨hz, rfl | ⟨b', off', e, hc⟩⟩ := h
  · exact ⟨by simp, .inl (by simp)⟩
  · cases e
    refine ⟨fun z hz' => hz z (List.mem_of_mem_drop (List.mem_of_mem_take hz')), .inr ⟨b, off + i, rfl, fun j hj => ?_⟩⟩
    simp at hj
    rw [Nat.add_assoc, hc (i + j) (by omega)]
    congr 3
    simp [List.getD_eq_getElem?_getD, show j < n by omega]
theorem BytesAt.drop {w : World} {b off : Nat} {zs : List Nat} (h : BytesAt w (some ⟨b, off, none⟩) zs) (i : Nat) : BytesAt w (some ⟨b, off + i, none⟩) (zs.drop i) := by
  have := h.cut i (zs.drop i).length
  rwa [List.take_length] at this

/-- BLOCK r IS A Reader OF THE BYTES b, AT p, WITH THE ERROR e. -/
def IsReader (w : World) (r : Nat) (a : Option Addr) (c : Nat) (b : List Nat) (p : Nat) (e : Int) : Prop :=
  w.heap[r]? = some (.cells #[.slice a b.length c, .int .i64 (p : Int), .int .i64 e] 108 (0, 0)) ∧ OwnB w 0 (.slice a b.length c) b ∧ p ≤ b.length ∧ b.length ≤ 140737488355328

section
variable {w w1 : World} {r : Nat} {a : Option Addr} {c : Nat} {b : List Nat} {p : Nat} {e : Int}
theorem IsReader.c0 (h : IsReader w r a c b p e) : w.cell? ⟨r, 0, none⟩ = some (.slice a b.length c) := by simp [World.cell?, h.1]
theorem IsReader.c1 (h : IsReader w r a c b p e) : w.cell? ⟨r, 1, none⟩ = some (.int .i64 (p : Int)) := by simp [World.cell?, h.1]
theorem IsReader.c2 (h : IsReader w r a c b p e) : w.cell? ⟨r, 2, none⟩ = some (.int .i64 e) := by simp [World.cell?, h.1]
theorem IsReader.frozen (h : IsReader w r a c b p e) (j : Nat) : w.frozen? ⟨r, j, none⟩ = false := frozen_of_row w r j _ _ h.1
theorem IsReader.lt (h : IsReader w r a c b p e) : r < w.heap.size := (Array.getElem?_eq_some_iff.1 h.1).1
theorem IsReader.bytes (h : IsReader w r a c b p e) : BytesAt w a b := h.2.1.bytes.1
theorem IsReader.nil (h : IsReader w r a c b p e) : (a = none → c = 0) ∧ b.length ≤ c := by
  obtain ⟨a', c', e', _, hn, hl⟩ := h.2.1.slice
  simp only [Value.slice.injEq] at e'
  obtain ⟨rfl, _, rfl⟩ := e'
  exact ⟨hn, hl⟩
theorem IsReader.cmax (h : IsReader w r a c b p e) : c ≤ maxLen := by
  rcases h.2.1.shape with ⟨e', _⟩ | ⟨g, cap, e', _, _, _, hm, _⟩
  · simp only [Value.slice.injEq] at e'; rw [e'.2.2]; exact Nat.zero_le _
  · simp only [Value.slice.injEq] at e'; rw [e'.2.2]; exact hm
theorem IsReader.ne (h : IsReader w r a c b p e) : (Value.slice a b.length c).ownBlock ≠ some r := by
  obtain ⟨h1, ⟨_, _, h2 | ⟨g, cap, cur, e', _, hg, _⟩⟩, _⟩ := h
  · rw [h2.1]; simp [Value.ownBlock]
  · rw [e']
    intro e2
    simp only [Value.ownBlock, Option.some.injEq] at e2
    subst e2
    rw [hg] at h1
    simp at h1
theorem IsReader.drewN (h : IsReader w r a c b p e) (n : Nat) : IsReader (w.drewN n) r a c b p e := h
theorem IsReader.kept (h : IsReader w r a c b p e) (hb : Below w.heap.size w w1) : IsReader w1 r a c b p e :=
  ⟨by rw [hb.block r h.lt]; exact h.1, h.2.1.kept hb, h.2.2⟩
theorem IsReader.below {B : Nat} (h : IsReader w r a c b p e) (hb : Below B w w1) (hr : r < B) (hv : ∀ g, (Value.slice a b.length c).ownBlock = some g → g < B) : IsReader w1 r a c b p e :=
  ⟨by rw [hb.block r hr]; exact h.1, h.2.1.below hb hv, h.2.2⟩
theorem grown_setCell (w : World) (x : Addr) (v : Value) : w.grownBy (w.setCell x v) (some x.block) :=
  ⟨rfl, rfl, rfl, by simp, fun k _ hk => heap_setCell_other w x k v (fun e => hk (by rw [e]))⟩
theorem IsReader.setAt (h : IsReader w r a c b p e) (q : Nat) (hq : q ≤ b.length) : IsReader (w.setCell ⟨r, 1, none⟩ (.int .i64 (q : Int))) r a c b q e := by
  refine ⟨?_, ⟨h.2.1.1, ?_⟩, hq, h.2.2.2⟩
  · have := heap_setCell_same w r 1 _ _ (.int .i64 (q : Int)) h.1
    rw [this]; rfl
  · exact h.2.1.2.kept (grown_setCell w ⟨r, 1, none⟩ _) (.inr h.ne)
theorem IsReader.setErr (h : IsReader w r a c b p e) (x : Int) : IsReader (w.setCell ⟨r, 2, none⟩ (.int .i64 x)) r a c b p x := by
  refine ⟨?_, ⟨h.2.1.1, ?_⟩, h.2.2⟩
  · have := heap_setCell_same w r 2 _ _ (.int .i64 x) h.1
    rw [this]; rfl
  · exact h.2.1.2.kept (grown_setCell w ⟨r, 2, none⟩ _) (.inr h.ne)
theorem grown_drewN (w : World) (n : Nat) (row : Option Nat) : w.grownBy (w.drewN n) row := ⟨rfl, rfl, rfl, Nat.le_refl _, fun _ _ _ => rfl⟩
theorem grown_trans' {x y z : World} {row : Option Nat} (h : x.grownBy y row) (k : y.grownBy z row) : x.grownBy z row :=
  ⟨k.os.trans h.os, k.tape.trans h.tape, k.output.trans h.output, Nat.le_trans h.size k.size, fun i hi hne => (k.block i (Nat.lt_of_lt_of_le hi h.size) hne).trans (h.block i hi hne)⟩
theorem grown_below {x y : World} {row : Option Nat} (h : Below x.heap.size x y) : x.grownBy y row := ⟨h.os, h.tape, h.output, h.size, fun k hk _ => h.block k hk⟩
end

/-- what a call of a Reader leaves: its own block, and new ones -/
def Reads (w : World) (r : Nat) (a : Option Addr) (c : Nat) (b : List Nat) (p : Nat) (e : Int) (w' : World) : Prop := IsReader w' r a c b p e ∧ w.grownBy w' (some r)

theorem left_any (w : World) (r : Nat) (a : Option Addr) (c : Nat) (b : List Nat) (p : Nat) (e : Int) (h : IsReader w r a c b p e) :
    Calls Tryd.prog 63 #[.pointer (some ⟨r, 0, none⟩)] w fun e' w' => e' = .returned (.int .i64 ((b.length - p : Nat) : Int)) ∧ ∃ q, w' = w.drewN q := by
  have h0 := h.c0
  have h1 := h.c1
  have hp := h.2.2.1
  have hl := h.2.2.2
  clear h
  go_enter Tryd.func63, Tryd.ntmps63
  go_wp2
  go_quiet (fail)
  go_wp2
  go_ret
  exact ⟨congrArg (fun x => Ending.returned (.int .i64 x)) (by omega), _, rfl⟩

def rdByte (b : List Nat) (p : Nat) (e : Int) : Nat × Nat × Int := if e ≠ 0 then (0, p, e) else if p = b.length then (0, p, 10) else (b.getD p 0, p + 1, 0)

set_option maxHeartbeats 400000 in
theorem rByte_any (w : World) (r : Nat) (a : Option Addr) (c : Nat) (b : List Nat) (p : Nat) (e : Int) (h : IsReader w r a c b p e) :
    Calls Tryd.prog 84 #[.pointer (some ⟨r, 0, none⟩)] w fun e' w' => e' = .returned (.int .u8 (((rdByte b p e).1 : Nat) : Int)) ∧ Reads w r a c b (rdByte b p e).2.1 (rdByte b p e).2.2 w' := by
  have HR : Hid (IsReader w r a c b p e) := h
  have h0 := h.c0
  have h1 := h.c1
  have h2 := h.c2
  have hp := h.2.2.1
  have hl := h.2.2.2
  clear h
  by_cases he : e = 0
  · subst he
    go_enter Tryd.func84, Tryd.ntmps84
    go_wp2_with fail
    refine (left_any w r a c b p 0 HR.out).mono ?_
    rintro e1 w1 ⟨rfl, q, hq⟩
    have HR1 : Hid (IsReader w1 r a c b p 0) := by rw [hq]; exact HR.out
    have HG1 : Hid (w.grownBy w1 (some r)) := by rw [hq]; exact grown_drewN _ _ _
    have k0 := HR1.out.c0
    have k1 := HR1.out.c1
    have k2 := HR1.out.c2
    have f1 := HR1.out.frozen 1
    have f2 := HR1.out.frozen 2
    clear hq h0 h1 h2
    by_cases hpl : p = b.length
    · have hz : (((b.length - p : Nat) : Int) == 0) = true := by rw [beq_iff_eq]; omega
      have HE : Hid (rdByte b p 0 = (0, p, 10)) := by unfold rdByte; rw [Hid, if_neg (by simp), if_pos hpl]
      have HW := HR1.out.setErr 10
      have HW' : Hid (Reads w r a c b p 10 (w1.setCell ⟨r, 2, none⟩ (.int .i64 10))) := ⟨HW, grown_trans' HG1.out (grown_setCell w1 ⟨r, 2, none⟩ _)⟩
      clear hpl HW
      go_wp2
      go_ret
      exact ⟨by rw [HE.out]; rfl, by rw [HE.out]; exact HW'.out⟩
    · have hz : (((b.length - p : Nat) : Int) == 0) = false := by rw [beq_eq_false_iff_ne]; omega
      have HE : Hid (rdByte b p 0 = (b.getD p 0, p + 1, 0)) := by unfold rdByte; rw [Hid, if_neg (by simp), if_neg hpl]
      have hlt : p < b.length := by omega
      obtain ⟨g, off, ha, hc⟩ : ∃ g off, a = some ⟨g, off, none⟩ ∧ w1.cell? ⟨g, off + p, none⟩ = some (.int .u8 ((b.getD p 0 : Nat) : Int)) := by
        obtain ⟨_, h3 | ⟨g, off, h3, hc⟩⟩ := HR1.out.bytes
        · rw [h3] at hlt; simp at hlt
        · exact ⟨g, off, h3, hc p hlt⟩
      subst ha
      have HW := HR1.out.setAt (p + 1) (by omega)
      generalize b.getD p 0 = z at *
      clear hpl
      go_wp2
      go_quiet (fail)
      have HW' : Hid (Reads w r (some ⟨g, off, none⟩) c b (p + 1) 0 ((w1.setCell ⟨r, 1, none⟩ (.int .i64 ((p : Int) + 1))).drewN nq)) := ⟨HW, grown_trans' HG1.out (grown_trans' (grown_setCell w1 ⟨r, 1, none⟩ _) (grown_drewN _ _ _))⟩
      clear HW
      go_wp2
      go_ret
      exact ⟨by rw [HE.out]; rfl, by rw [HE.out]; exact HW'.out⟩
  · have he' : (e != 0) = true := by rw [bne_iff_ne]; exact he
    have HE : Hid (rdByte b p e = (0, p, e)) := by unfold rdByte; rw [Hid, if_pos he]
    clear he
    go_enter Tryd.func84, Tryd.ntmps84
    go_wp2
    go_ret
    exact ⟨by rw [HE.out]; rfl, by rw [HE.out]; exact ⟨HR.out, World.grownBy.refl _ _⟩⟩

def rdUpto (b : List Nat) (p : Nat) (e : Int) (most : Nat) : Nat × Nat × Int :=
  if e ≠ 0 then (0, p, e) else if (scan (b.drop p)).2.2 ≠ 0 then (0, p, (((scan (b.drop p)).2.2 : Nat) : Int)) else if most < (scan (b.drop p)).1 then (0, p, 12) else ((scan (b.drop p)).1, p + (scan (b.drop p)).2.1, 0)

set_option maxHeartbeats 400000 in
theorem rUpto_any (w : World) (r : Nat) (a : Option Addr) (c : Nat) (b : List Nat) (p : Nat) (e : Int) (most : Nat) (h : IsReader w r a c b p e) :
    Calls Tryd.prog 39 #[.pointer (some ⟨r, 0, none⟩), .int .u64 (most : Int)] w fun e' w' => e' = .returned (.int .u64 (((rdUpto b p e most).1 : Nat) : Int)) ∧ Reads w r a c b (rdUpto b p e most).2.1 (rdUpto b p e most).2.2 w' := by
  have HR : Hid (IsReader w r a c b p e) := h
  have h0 := h.c0
  have h1 := h.c1
  have h2 := h.c2
  have f1 := h.frozen 1
  have f2 := h.frozen 2
  have hp := h.2.2.1
  have hl := h.2.2.2
  have hnil := h.nil
  have hcm := h.cmax
  clear h
  by_cases he : e = 0
  · subst he
    have HZ : Hid (∀ z ∈ b, z < 256) := HR.out.2.1.1
    have HU : Hid (rdUpto b p 0 most = if (scan (b.drop p)).2.2 ≠ 0 then (0, p, (((scan (b.drop p)).2.2 : Nat) : Int)) else if most < (scan (b.drop p)).1 then (0, p, 12) else ((scan (b.drop p)).1, p + (scan (b.drop p)).2.1, 0)) := by
      unfold rdUpto; rw [Hid, if_neg (by simp)]
    have HSC : Hid ((scan (b.drop p)).2.2 = 0 → (scan (b.drop p)).2.1 ≤ (b.drop p).length) := by
      intro h0
      have h3 := scan_one (b.drop p) (scan (b.drop p)).1 (scan (b.drop p)).2.1 (fun z hz => HZ.out z (List.mem_of_mem_drop hz)) (by rw [← h0])
      exact h3.2.2.1
    have HMX : Hid ((b.drop p).length ≤ maxLen) := by rw [Hid, List.length_drop]; unfold maxLen; omega
    rcases HR.out.2.1.shape with ⟨hv, hb0⟩ | ⟨g, cap, hv, _, _, _, _, _⟩
    · simp only [Value.slice.injEq] at hv
      obtain ⟨rfl, _, rfl⟩ := hv
      subst hb0
      have hp0 : p = 0 := by simpa using hp
      subst hp0
      have HSB : Hid (BytesAt w none []) := ⟨by simp, .inl rfl⟩
      have HE : Hid (rdUpto [] 0 0 most = (0, 0, 10)) := rfl
      clear hnil hcm HZ HU HSC HMX hp hl
      go_enter Tryd.func39, Tryd.ntmps39
      go_wp2
      go_quiet ((go_at_call 64; exact Calls.quiet_of_same (scan_any _ _ _ _ [] rfl (HSB.out.drewN _) (by simp [maxLen]))))
      have HW' : Hid (Reads w r none 0 [] 0 10 ((w.setCell ⟨r, 2, none⟩ (.int .i64 10)).drewN nq)) := ⟨HR.out.setErr 10, grown_trans' (grown_setCell w ⟨r, 2, none⟩ _) (grown_drewN _ _ _)⟩
      rw [show scan [] = (0, 0, 10) from rfl]
      go_wp2
      go_ret
      exact ⟨by rw [HE.out]; rfl, by rw [HE.out]; exact HW'.out⟩
    · simp only [Value.slice.injEq] at hv
      obtain ⟨rfl, _, rfl⟩ := hv
      have hlc := hnil.2
      have hcm' : c ≤ 9223372036854775807 := by unfold maxLen at hcm; omega
      have HLN : Hid (b.length - p = (b.drop p).length) := by rw [Hid, List.length_drop]
      clear hnil hcm HZ
      by_cases hcp : c = p
      · have hbl : b.length = p := by omega
        have HSB : Hid (BytesAt w (some ⟨g, 0, none⟩) []) := ⟨by simp, .inl rfl⟩
        have HE : Hid (rdUpto b p 0 most = (0, p, 10)) := by
          rw [Hid, HU.out, List.drop_of_length_le (by omega)]; rfl
        have HW : Hid (IsReader w r (some ⟨g, 0, none⟩) c b p 0) := HR.out
        have hcz : (c : Int) - (p : Int) = 0 := by omega
        have hlz : (b.length : Int) - (p : Int) = 0 := by omega
        clear HU HSC HMX HLN
        go_enter Tryd.func39, Tryd.ntmps39
        go_wp2
        go_quiet ((go_at_call 64; exact Calls.quiet_of_same (scan_any _ _ _ _ [] rfl (HSB.out.drewN _) (by simp [maxLen]))))
        have HW' : Hid (Reads w r (some ⟨g, 0, none⟩) c b p 10 ((w.setCell ⟨r, 2, none⟩ (.int .i64 10)).drewN nq)) := ⟨HR.out.setErr 10, grown_trans' (grown_setCell w ⟨r, 2, none⟩ _) (grown_drewN _ _ _)⟩
        rw [show scan [] = (0, 0, 10) from rfl]
        go_wp2
        go_ret
        exact ⟨by rw [HE.out]; rfl, by rw [HE.out]; exact HW'.out⟩
      · have HSB : Hid (BytesAt w (some ⟨g, p, none⟩) (b.drop p)) := by have := HR.out.bytes.drop p; rwa [Nat.zero_add] at this
        go_enter Tryd.func39, Tryd.ntmps39
        go_wp2
        go_quiet ((go_at_call 64; exact Calls.quiet_of_same (scan_any _ _ _ _ (b.drop p) HLN.out (HSB.out.drewN _) HMX.out)))
        generalize hs : scan (b.drop p) = s at *
        clear hs
        have HR1 : Hid (IsReader (w.drewN nq) r (some ⟨g, 0, none⟩) c b p 0) := HR.out
        by_cases t1 : s.2.2 = 0
        · have hT1 : (((s.2.2 : Nat) : Int) == 0) = true := by rw [beq_iff_eq]; omega
          by_cases t2 : most < s.1
          · have hT2 : (most : Int) < ((s.1 : Nat) : Int) := by omega
            have HE : Hid (rdUpto b p 0 most = (0, p, 12)) := by rw [Hid, HU.out, if_neg (by simp [t1]), if_pos t2]
            have HW' : Hid (Reads w r (some ⟨g, 0, none⟩) c b p 12 ((w.setCell ⟨r, 2, none⟩ (.int .i64 12)).drewN nq)) := ⟨HR.out.setErr 12, grown_trans' (grown_setCell w ⟨r, 2, none⟩ _) (grown_drewN _ _ _)⟩
            clear t1 t2 HSC
            go_wp2
            go_ret
            exact ⟨by rw [HE.out]; rfl, by rw [HE.out]; exact HW'.out⟩
          · have hT2 : ¬ (most : Int) < ((s.1 : Nat) : Int) := by omega
            have hT3 : (((s.2.2 : Nat) : Int) != 0) = false := by rw [t1]; simp
            have HE : Hid (rdUpto b p 0 most = (s.1, p + s.2.1, 0)) := by rw [Hid, HU.out, if_neg (by simp [t1]), if_neg t2]
            have hk : p + s.2.1 ≤ b.length := by
              have := HSC.out t1
              rw [List.length_drop] at this
              omega
            have HW' : Hid (Reads w r (some ⟨g, 0, none⟩) c b (p + s.2.1) 0 ((w.setCell ⟨r, 1, none⟩ (.int .i64 ((p : Int) + ((s.2.1 : Nat) : Int)))).drewN nq)) := ⟨HR.out.setAt (p + s.2.1) hk, grown_trans' (grown_setCell w ⟨r, 1, none⟩ _) (grown_drewN _ _ _)⟩
            clear t1 t2 HSC
            go_wp2
            go_ret
            exact ⟨by rw [HE.out]; rfl, by rw [HE.out]; exact HW'.out⟩
        · have hT1 : (((s.2.2 : Nat) : Int) == 0) = false := by rw [beq_eq_false_iff_ne]; omega
          have hT3 : (((s.2.2 : Nat) : Int) != 0) = true := by rw [bne_iff_ne]; omega
          have HE : Hid (rdUpto b p 0 most = (0, p, ((s.2.2 : Nat) : Int))) := by rw [Hid, HU.out, if_pos t1]
          have HW' : Hid (Reads w r (some ⟨g, 0, none⟩) c b p ((s.2.2 : Nat) : Int) ((w.setCell ⟨r, 2, none⟩ (.int .i64 ((s.2.2 : Nat) : Int))).drewN nq)) := ⟨HR.out.setErr _, grown_trans' (grown_setCell w ⟨r, 2, none⟩ _) (grown_drewN _ _ _)⟩
          clear t1 HSC
          go_wp2
          go_ret
          exact ⟨by rw [HE.out]; rfl, by rw [HE.out]; exact HW'.out⟩
  · have he' : (e != 0) = true := by rw [bne_iff_ne]; exact he
    have HE : Hid (rdUpto b p e most = (0, p, e)) := by unfold rdUpto; rw [Hid, if_pos he]
    clear he hnil
    go_enter Tryd.func39, Tryd.ntmps39
    go_wp2
    go_ret
    exact ⟨by rw [HE.out]; rfl, by rw [HE.out]; exact ⟨HR.out, World.grownBy.refl _ _⟩⟩

end Go.Proofs.YtkjmeknaedapjaaDoor
