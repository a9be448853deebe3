/-
  PLAIN MATHEMATICS: a record is read back; one in which a byte was changed is refused (promise 1.8). No program, no dump.
-/
import Derived.Test.YthdlilekilkogabDoorRec
namespace Go.Proofs.YthdlilekilkogabDoor.Rec

theorem drop_append_len {α : Type} (a b : List α) (n : Nat) (h : n = a.length) : (a ++ b).drop n = b := by subst h; simp
theorem take_append_len {α : Type} (a b : List α) (n : Nat) (h : n = a.length) : (a ++ b).take n = a := by subst h; simp
theorem sealed_take5 (kind : Nat) (load : List Nat) : (sealed kind load).take 5 = head kind load.length := by
  unfold sealed; rw [List.append_assoc, List.append_assoc, take_append_len _ _ 5 rfl]
theorem sealed_drop5 (kind : Nat) (load : List Nat) : (sealed kind load).drop 5 = le4 (Crc.sum (head kind load.length)) ++ (load ++ le4 (Crc.sum load)) := by
  unfold sealed; rw [List.append_assoc, List.append_assoc, drop_append_len _ _ 5 rfl]
theorem sealed_drop1 (kind : Nat) (load : List Nat) : (sealed kind load).drop 1 = le4 load.length ++ (le4 (Crc.sum (head kind load.length)) ++ (load ++ le4 (Crc.sum load))) := by
  unfold sealed head; simp [List.append_assoc]
theorem sealed_drop9 (kind : Nat) (load : List Nat) : (sealed kind load).drop 9 = load ++ le4 (Crc.sum load) := by
  unfold sealed; rw [List.append_assoc, drop_append_len _ _ 9 rfl]
theorem sealed_un4 (kind : Nat) (load : List Nat) (h : load.length ≤ 16777216) : un4 ((sealed kind load).drop 1) = load.length := by
  rw [sealed_drop1, un4_le4 _ (by omega)]
theorem sealed_load (kind : Nat) (load : List Nat) : ((sealed kind load).drop 9).take load.length = load := by
  rw [sealed_drop9, take_append_len _ _ _ rfl]
theorem sealed_last (kind : Nat) (load : List Nat) : un4 ((sealed kind load).drop (9 + load.length)) = Crc.sum load := by
  rw [← List.drop_drop, sealed_drop9, drop_append_len _ _ _ rfl, ← List.append_nil (le4 _), un4_le4 _ sum_lt]
theorem sealed_head (kind : Nat) (load : List Nat) : un4 ((sealed kind load).drop 5) = Crc.sum ((sealed kind load).take 5) := by
  rw [sealed_drop5, sealed_take5, un4_le4 _ sum_lt]

/-- A RECORD IS READ BACK. -/
theorem opened_sealed (kind : Nat) (load : List Nat) (h : load.length ≤ 16777216) (R : List Nat) (hR : R = []) : opened (sealed kind load ++ R) 0 = (kind, load, (load.length : Int) + 13, 0) := by
  subst hR
  rw [List.append_nil]
  unfold opened
  rw [if_neg (by omega)]
  simp only [Int.toNat_zero, List.drop_zero]
  rw [if_neg (by rw [sealed_length]; omega), if_neg (by rw [sealed_head]; simp), sealed_un4 _ _ h, if_neg (by omega), if_neg (by rw [sealed_length]; omega), sealed_load, sealed_last, if_neg (by simp)]
  simp [sealed, head]

/-! one byte changed -/
def flip (L : List Nat) (p e : Nat) : List Nat := L.set p (L.getD p 0 ^^^ e)
theorem flip_lt {L : List Nat} {p e : Nat} (h : ∀ z ∈ L, z < 256) (he : e < 256) : ∀ z ∈ flip L p e, z < 256 :=
  Crc.set_lt h _ _ (Nat.xor_lt_two_pow (n := 8) (getD_lt h p) he)
theorem flip_length (L : List Nat) (p e : Nat) : (flip L p e).length = L.length := by simp [flip]
theorem flip_ne {L : List Nat} {p e : Nat} (h : ∀ z ∈ L, z < 256) (he : e < 256) (h0 : e ≠ 0) (hp : p < L.length) : flip L p e ≠ L := by
  intro hh
  have hv := Crc.val_set L p e h he hp
  rw [show L.set p (L.getD p 0 ^^^ e) = L from hh] at hv
  have h1 := congrArg (Crc.val L ^^^ ·) hv
  simp only [← Nat.xor_assoc, Nat.xor_self, Nat.zero_xor] at h1
  have h2 : 2 ^ (8 * p) * e ≠ 0 := Nat.mul_ne_zero (Nat.pos_iff_ne_zero.1 (Nat.two_pow_pos _)) h0
  omega
theorem flip_sum {L : List Nat} {p e : Nat} (h : ∀ z ∈ L, z < 256) (he : e < 256) (h0 : e ≠ 0) (hp : p < L.length) : Crc.sum (flip L p e) ≠ Crc.sum L := by
  intro hs
  refine flip_ne h he h0 hp (Crc.burst (flip_length L p e) (flip_lt h he) h (8 * p) e (by omega) (by rw [flip_length]; omega) ?_ hs)
  rw [flip, Crc.val_set L p e h he hp, Nat.xor_comm (Crc.val L), Nat.xor_assoc, Nat.xor_self, Nat.xor_zero]
theorem xor_ne {a e : Nat} (h0 : e ≠ 0) : a ^^^ e ≠ a := by
  intro h
  have h1 := congrArg (a ^^^ ·) h
  simp only [← Nat.xor_assoc, Nat.xor_self, Nat.zero_xor] at h1
  exact h0 h1
theorem flip_un4 {L : List Nat} {p e : Nat} (h : ∀ z ∈ L, z < 256) (he : e < 256) (h0 : e ≠ 0) (hp : p < 4) (hl : 4 ≤ L.length) : un4 (flip L p e) ≠ un4 L := by
  have hf := flip_lt (p := p) h he
  have g0 := getD_lt h 0
  have g1 := getD_lt h 1
  have g2 := getD_lt h 2
  have g3 := getD_lt h 3
  have f0 := getD_lt hf 0
  have f1 := getD_lt hf 1
  have f2 := getD_lt hf 2
  have f3 := getD_lt hf 3
  intro hu
  unfold un4 at hu
  have e0 : (flip L p e).getD 0 0 = L.getD 0 0 := by omega
  have e1 : (flip L p e).getD 1 0 = L.getD 1 0 := by omega
  have e2 : (flip L p e).getD 2 0 = L.getD 2 0 := by omega
  have e3 : (flip L p e).getD 3 0 = L.getD 3 0 := by omega
  have hpp : (flip L p e).getD p 0 = L.getD p 0 ^^^ e := by
    rw [flip, List.getD_eq_getElem?_getD, List.getElem?_set_self (by omega)]; rfl
  have key : (flip L p e).getD p 0 = L.getD p 0 := by
    obtain rfl | rfl | rfl | rfl : p = 0 ∨ p = 1 ∨ p = 2 ∨ p = 3 := by omega
    all_goals assumption
  rw [hpp] at key
  exact xor_ne h0 key
theorem flip_take {L : List Nat} {p e k : Nat} (hk : p < k) : (flip L p e).take k = flip (L.take k) p e := by
  unfold flip
  rw [List.take_set, List.getD_eq_getElem?_getD, List.getD_eq_getElem?_getD, List.getElem?_take_of_lt hk]
theorem flip_take_out {L : List Nat} {p e k : Nat} (hk : k ≤ p) : (flip L p e).take k = L.take k := by
  unfold flip
  rw [List.take_set, List.set_eq_of_length_le (by rw [List.length_take]; omega)]
theorem flip_drop {L : List Nat} {p e k : Nat} (hk : k ≤ p) : (flip L p e).drop k = flip (L.drop k) (p - k) e := by
  unfold flip
  rw [List.drop_set, if_neg (by omega), List.getD_eq_getElem?_getD, List.getD_eq_getElem?_getD, List.getElem?_drop, show k + (p - k) = p by omega]
theorem flip_drop_out {L : List Nat} {p e k : Nat} (hk : p < k) : (flip L p e).drop k = L.drop k := by
  unfold flip
  rw [List.drop_set, if_pos hk]

/-- A RECORD IN WHICH A BYTE WAS CHANGED IS REFUSED. -/
theorem opened_flip (kind : Nat) (load : List Nat) (p e : Nat) (hk : kind < 256) (hl : ∀ z ∈ load, z < 256) (h : load.length ≤ 16777216) (hp : p < load.length + 13) (he : e < 256) (h0 : e ≠ 0) :
    (opened (flip (sealed kind load) p e) 0).2.2.2 ≠ 0 := by
  have hz := sealed_lt hk hl
  have hlen := sealed_length kind load
  unfold opened
  rw [if_neg (by omega)]
  simp only [Int.toNat_zero, List.drop_zero]
  rw [if_neg (by rw [flip_length, hlen]; omega)]
  by_cases c1 : Crc.sum ((flip (sealed kind load) p e).take 5) ≠ un4 ((flip (sealed kind load) p e).drop 5)
  · rw [if_pos c1]; decide
  · rw [if_neg c1]
    simp only [ne_eq, Decidable.not_not] at c1
    have hp9 : 9 ≤ p := by
      by_cases p5 : p < 5
      · rw [flip_take p5, flip_drop_out p5, sealed_head] at c1
        exact absurd c1 (flip_sum (fun z hz' => hz z (List.mem_of_mem_take hz')) he h0 (by rw [List.length_take, hlen]; omega))
      · by_cases p9 : p < 9
        · rw [flip_take_out (by omega), flip_drop (by omega), ← sealed_head] at c1
          exact absurd c1.symm (flip_un4 (fun z hz' => hz z (List.mem_of_mem_drop hz')) he h0 (by omega) (by rw [List.length_drop, hlen]; omega))
        · omega
    have hu : un4 ((flip (sealed kind load) p e).drop 1) = load.length := by
      have e1 : un4 ((flip (sealed kind load) p e).drop 1) = un4 ((sealed kind load).drop 1) := by
        unfold un4
        simp only [List.getD_eq_getElem?_getD, List.getElem?_drop, flip]
        rw [List.getElem?_set_ne (by omega), List.getElem?_set_ne (by omega), List.getElem?_set_ne (by omega), List.getElem?_set_ne (by omega)]
      rw [e1, sealed_un4 _ _ h]
    rw [hu, if_neg (by omega), if_neg (by rw [flip_length, hlen]; omega)]
    by_cases c2 : Crc.sum (((flip (sealed kind load) p e).drop 9).take load.length) ≠ un4 ((flip (sealed kind load) p e).drop (9 + load.length))
    · rw [if_pos c2]; decide
    · exfalso
      simp only [ne_eq, Decidable.not_not] at c2
      rw [flip_drop hp9] at c2
      by_cases pl : p < 9 + load.length
      · rw [flip_take (by omega), flip_drop_out (by omega), sealed_last, sealed_load] at c2
        exact flip_sum hl he h0 (by omega) c2
      · rw [flip_take_out (by omega), flip_drop (by omega), sealed_load, ← sealed_last kind load] at c2
        exact flip_un4 (fun z hz' => hz z (List.mem_of_mem_drop hz')) he h0 (by omega) (by rw [List.length_drop, hlen]; omega) c2.symm

end Go.Proofs.YthdlilekilkogabDoor.Rec
