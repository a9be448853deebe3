/-
  THE ORDER OF BYTES; THE WALK OF below.
-/
import Derived.Test.YtnjgaibcpcpmcabDoorSame2
import Derived.Test.YtnjgaibcpcpmcabDoorKBytes
namespace Go.Proofs.YtnjgaibcpcpmcabDoor
open Go.RowKit Go.Sort

theorem num_from (B : List Nat) (u : Nat) : B.foldl (fun u c => u * 256 + c) u = u * 256 ^ B.length + num B := by
  induction B generalizing u with
  | nil => simp [num]
  | cons b B ih =>
    unfold num
    rw [List.foldl_cons, List.foldl_cons, ih, ih (0 * 256 + b), List.length_cons, Nat.pow_succ, Nat.add_mul, Nat.zero_mul, Nat.zero_add, Nat.mul_assoc, Nat.mul_comm 256, Nat.add_assoc]
theorem num_append (A B : List Nat) : num (A ++ B) = num A * 256 ^ B.length + num B := by
  rw [← num_from B (num A)]; unfold num; rw [List.foldl_append]
theorem num_cons (x : Nat) (X : List Nat) : num (x :: X) = x * 256 ^ X.length + num X := by
  have := num_append [x] X
  simpa [num] using this
theorem num_diff (P X Y : List Nat) (x y : Nat) (hl : X.length = Y.length) (hX : ∀ z ∈ X, z < 256) (hY : ∀ z ∈ Y, z < 256) (hne : x ≠ y) : (num (P ++ x :: X) < num (P ++ y :: Y)) ↔ x < y := by
  rw [num_append, num_append, num_cons, num_cons, List.length_cons, List.length_cons, hl]
  have h1 := num_lt X hX
  have h2 := num_lt Y hY
  rw [hl] at h1
  generalize 256 ^ Y.length = m at *
  generalize num P * 256 ^ (Y.length + 1) = p at *
  constructor
  · intro h
    rcases Nat.lt_or_ge x y with h3 | h3
    · exact h3
    · have : y + 1 ≤ x := by omega
      have := Nat.mul_le_mul_right m this
      rw [Nat.add_mul] at this
      omega
  · intro h
    have : x + 1 ≤ y := by omega
    have := Nat.mul_le_mul_right m this
    rw [Nat.add_mul] at this
    omega
theorem split_at (xs : List Nat) (k : Nat) (h : k < xs.length) : xs = xs.take k ++ xs.getD k 0 :: xs.drop (k + 1) := by
  rw [List.getD_eq_getElem?_getD, List.getElem?_eq_getElem h]
  simp
theorem below_at (xs ys : List Nat) (k : Nat) (hl : xs.length = ys.length) (hk : k < xs.length) (hx : ∀ z ∈ xs, z < 256) (hy : ∀ z ∈ ys, z < 256) (hp : xs.take k = ys.take k) (hne : xs.getD k 0 ≠ ys.getD k 0) :
    decide (num xs < num ys) = decide (xs.getD k 0 < ys.getD k 0) := by
  have h := num_diff (xs.take k) (xs.drop (k + 1)) (ys.drop (k + 1)) (xs.getD k 0) (ys.getD k 0) (by simp; omega) (fun z hz => hx z (List.mem_of_mem_drop hz)) (fun z hz => hy z (List.mem_of_mem_drop hz)) hne
  have e1 := split_at xs k hk
  have e2 := split_at ys k (by omega)
  rw [← hp] at e2
  rw [← e1, ← e2] at h
  simp [h]

/-- a key as one number -/
theorem num_keyBytes {k : K} (h2 : In64 k.2) : num (keyBytes k) = k.1.toNat * 18446744073709551616 + turn k.2 := by
  unfold keyBytes
  rw [num_append, be_length, num_be 8 _ (turn_lt h2)]
  have : num [k.1.toNat / 256, k.1.toNat % 256] = k.1.toNat := by simp [num]; omega
  rw [this]
theorem num_lt_key {a b : K} (ha : isKey a = true) (hb : isKey b = true) (ia : In64 a.2) (ib : In64 b.2) : decide (num (keyBytes a) < num (keyBytes b)) = lt a b := by
  rw [num_keyBytes ia, num_keyBytes ib]
  have t1 := turn_lt ia
  have t2 := turn_lt ib
  have u1 := turn_int ia
  have u2 := turn_int ib
  simp only [isKey, Bool.and_eq_true, decide_eq_true_eq] at ha hb
  rw [Bool.eq_iff_iff, lt_iff, decide_eq_true_eq]
  omega
theorem from_keyBytes {k : K} (hk : isKey k = true) (h2 : In64 k.2) : fromK (keyBytes k) = k ∧ fromE (keyBytes k) = 0 := by
  have hl := keyBytes_length k
  refine ⟨?_, by unfold fromE; rw [if_neg (by omega), if_neg (by omega)]⟩
  unfold fromK fromB
  rw [if_pos hl]
  have e : (keyBytes k).drop 2 = be 8 (turn k.2) := rfl
  rw [e, num_be 8 _ (turn_lt h2), turn_int h2]
  have e0 : (keyBytes k).getD 0 0 = k.1.toNat / 256 := rfl
  have e1 : (keyBytes k).getD 1 0 = k.1.toNat % 256 := rfl
  rw [e0, e1]
  simp only [isKey, Bool.and_eq_true, decide_eq_true_eq] at hk
  obtain ⟨k1, k2⟩ := k
  simp only [Prod.mk.injEq] at *
  omega
theorem isKey_iff' (k : K) : isKey k = true ↔ 0 ≤ k.1 ∧ k.1 ≤ 65535 := by simp [isKey]
theorem keyBytes_from {zs : List Nat} (hl : zs.length = 10) (hz : ∀ z ∈ zs, z < 256) : isKey (fromB zs) = true ∧ In64 (fromB zs).2 ∧ keyBytes (fromB zs) = zs := by
  have hu := num10_lt zs hz hl
  have h0 := getD_lt hz 0
  have h1 := getD_lt hz 1
  refine ⟨?_, ?_, ?_⟩
  · rw [isKey_iff']; simp only [fromB]; omega
  · simp only [fromB, In64]; omega
  · unfold keyBytes
    have e : turn (fromB zs).2 = num (zs.drop 2) := by simp only [fromB, turn]; omega
    have hb := be_num (zs.drop 2) (fun z h => hz z (List.mem_of_mem_drop h))
    rw [show (zs.drop 2).length = 8 by simp; omega] at hb
    rw [e, hb]
    have t : (fromB zs).1.toNat = zs.getD 0 0 * 256 + zs.getD 1 0 := by simp only [fromB]; omega
    rw [t, show (zs.getD 0 0 * 256 + zs.getD 1 0) / 256 = zs.getD 0 0 by omega, show (zs.getD 0 0 * 256 + zs.getD 1 0) % 256 = zs.getD 1 0 by omega]
    obtain ⟨a, b, c, d, f, g, i, j, k, l, rfl⟩ := list10 hl
    rfl
theorem keyBytes_inj {a b : K} (ha : isKey a = true) (hb : isKey b = true) (ia : In64 a.2) (ib : In64 b.2) : decide (keyBytes a = keyBytes b) = decide (a = b) := by
  by_cases h : a = b
  · simp [h]
  · have : keyBytes a ≠ keyBytes b := fun e => h (by
      have h1 := (from_keyBytes ha ia).1
      rw [e, (from_keyBytes hb ib).1] at h1
      exact h1.symm)
    simp [h, this]

set_option maxHeartbeats 1000000 in
theorem below_any (w : World) (b off ca d doff cb : Nat) (xs ys : List Nat) (hl : xs.length = ys.length) (hm : xs.length ≤ maxLen) (hx : ∀ z ∈ xs, z < 256) (hy : ∀ z ∈ ys, z < 256)
    (hca : ∀ j, j < xs.length → w.cell? ⟨b, off + j, none⟩ = some (.int .u8 ((xs.getD j 0 : Nat) : Int)))
    (hcb : ∀ j, j < ys.length → w.cell? ⟨d, doff + j, none⟩ = some (.int .u8 ((ys.getD j 0 : Nat) : Int))) :
    Calls Tryd.prog 15 #[.slice (some ⟨b, off, none⟩) xs.length ca, .slice (some ⟨d, doff, none⟩) xs.length cb] w fun e w' => e = .returned (.bool (decide (num xs < num ys))) ∧ ∃ n, w' = w.drewN n := by
  unfold maxLen at hm
  have HD : Hid (∀ k, k < xs.length → xs.take k = ys.take k → xs.getD k 0 ≠ ys.getD k 0 → decide (num xs < num ys) = decide (xs.getD k 0 < ys.getD k 0)) := fun k hk => below_at xs ys k hl hk hx hy
  have HN : Hid (xs.take xs.length = ys.take xs.length → decide (num xs < num ys) = false) := fun h => by
    rw [List.take_length, hl, List.take_length] at h; rw [h]; simp
  have HS : Hid (∀ k, k < xs.length → xs.take k = ys.take k → xs.getD k 0 = ys.getD k 0 → xs.take (k + 1) = ys.take (k + 1)) := fun k hk h1 h2 => by
    rw [take_snoc xs k hk, take_snoc ys k (by omega), h1, h2]
  have bx := fun k => getD_lt hx k
  have byy := fun k => getD_lt hy k
  have hcb : ∀ j, j < xs.length → w.cell? ⟨d, doff + j, none⟩ = some (.int .u8 ((ys.getD j 0 : Nat) : Int)) := fun j hj => hcb j (by omega)
  clear hx hy hl
  go_enter Tryd.func15, Tryd.ntmps15
  go_wp2
  go_loopw [5] (fun i wr => ∃ k n : Nat, k ≤ xs.length ∧ i = .int .i64 k ∧ Hid (xs.take k = ys.take k) ∧ wr = w.drewN n) (fun i _ => xs.length - (intOf i).toNat)
  case atStart => exact ⟨0, 0, Nat.zero_le _, rfl, rfl, rfl⟩
  case round =>
    obtain ⟨k, n, hk, rfl, hp, rfl⟩ := hrel
    by_cases hlt : k < xs.length
    · have h1 := hca k hlt
      have h2 := hcb k hlt
      have i1 := bx k
      have i2 := byy k
      clear hca hcb bx byy
      by_cases e : xs.getD k 0 = ys.getD k 0
      · have HE : Hid (xs.take (k + 1) = ys.take (k + 1)) := HS.out k hlt hp.out e
        have hT : (((xs.getD k 0 : Nat) : Int) != ((ys.getD k 0 : Nat) : Int)) = false := by rw [e]; simp
        clear e
        generalize xs.getD k 0 = x at *
        generalize ys.getD k 0 = y at *
        go_wp2
        go_quiet (fail)
        go_wp2
        go_roundw
        case rel => exact ⟨k + 1, _, by omega, by go_num, HE, rfl⟩
        case measure => simp [intOf]; omega
      · have HE : Hid _ := HD.out k hlt hp.out e
        have hT : (((xs.getD k 0 : Nat) : Int) != ((ys.getD k 0 : Nat) : Int)) = true := by rw [bne_iff_ne]; omega
        clear e
        generalize xs.getD k 0 = x at *
        generalize ys.getD k 0 = y at *
        go_wp2
        go_quiet (fail)
        have h1' : ∀ n, ((w.drewN n).cell? ⟨b, off + k, none⟩ = some (.int .u8 (x : Int))) := fun n => h1
        have h2' : ∀ n, ((w.drewN n).cell? ⟨d, doff + k, none⟩ = some (.int .u8 (y : Int))) := fun n => h2
        go_wp2
        go_quiet (fail)
        go_wp2
        go_ret
        exact ⟨by rw [HE.out]; simp, _, by rw [World.drewN_drewN, World.drewN_drewN]⟩
    · obtain rfl : k = xs.length := by omega
      have HE := HN.out hp.out
      have HE' : Hid _ := HE
      clear hca hcb bx byy HE
      go_wp2
      go_ret
      exact ⟨by rw [HE'.out]; simp, _, rfl⟩

end Go.Proofs.YtnjgaibcpcpmcabDoor
