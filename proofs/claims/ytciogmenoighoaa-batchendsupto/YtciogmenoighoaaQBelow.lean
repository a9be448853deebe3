/-
  KEYS' BYTES, THERE AND BACK.
-/
import Derived.Test.YtciogmenoighoaaQKBytes
namespace Go.Proofs.Ytciogmenoighoaa.Kk
open Go.RowKit Go.Sort

theorem num_from (B : List Nat) (u : Nat) : B.foldl (fun u c => u * 256 + c) u = u * 256 ^ B.length + num B := by
  induction B generalizing u with
  | nil => simp [num]
  | cons b B ih =>
    unfold num
    rw [List.foldl_cons, List.foldl_cons, ih, ih (0 * 256 + b), List.length_cons, Nat.pow_succ, Nat.add_mul, Nat.zero_mul, Nat.zero_add, Nat.mul_assoc, Nat.mul_comm 256, Nat.add_assoc]
theorem num_append (A B : List Nat) : num (A ++ B) = num A * 256 ^ B.length + num B := by
  rw [← num_from B (num A)]; unfold num; rw [List.foldl_append]
theorem num_cons (x : Nat) (X : List Nat) : num (x :: X) = x * 256 ^ X.length + num X := by
  have := num_append [x] X
  simpa [num] using this
theorem num_diff (P X Y : List Nat) (x y : Nat) (hl : X.length = Y.length) (hX : ∀ z ∈ X, z < 256) (hY : ∀ z ∈ Y, z < 256) (hne : x ≠ y) : (num (P ++ x :: X) < num (P ++ y :: Y)) ↔ x < y := by
  rw [num_append, num_append, num_cons, num_cons, List.length_cons, List.length_cons, hl]
  have h1 := num_lt X hX
  have h2 := num_lt Y hY
  rw [hl] at h1
  generalize 256 ^ Y.length = m at *
  generalize num P * 256 ^ (Y.length + 1) = p at *
  constructor
  · intro h
    rcases Nat.lt_or_ge x y with h3 | h3
    · exact h3
    · have : y + 1 ≤ x := by omega
      have := Nat.mul_le_mul_right m this
      rw [Nat.add_mul] at this
      omega
  · intro h
    have : x + 1 ≤ y := by omega
    have := Nat.mul_le_mul_right m this
    rw [Nat.add_mul] at this
    omega
theorem split_at (xs : List Nat) (k : Nat) (h : k < xs.length) : xs = xs.take k ++ xs.getD k 0 :: xs.drop (k + 1) := by
  rw [List.getD_eq_getElem?_getD, List.getElem?_eq_getElem h]
  simp
theorem below_at (xs ys : List Nat) (k : Nat) (hl : xs.length = ys.length) (hk : k < xs.length) (hx : ∀ z ∈ xs, z < 256) (hy : ∀ z ∈ ys, z < 256) (hp : xs.take k = ys.take k) (hne : xs.getD k 0 ≠ ys.getD k 0) :
    decide (num xs < num ys) = decide (xs.getD k 0 < ys.getD k 0) := by
  have h := num_diff (xs.take k) (xs.drop (k + 1)) (ys.drop (k + 1)) (xs.getD k 0) (ys.getD k 0) (by simp; omega) (fun z hz => hx z (List.mem_of_mem_drop hz)) (fun z hz => hy z (List.mem_of_mem_drop hz)) hne
  have e1 := split_at xs k hk
  have e2 := split_at ys k (by omega)
  rw [← hp] at e2
  rw [← e1, ← e2] at h
  simp [h]

/-- a key as one number -/
theorem num_keyBytes {k : K} (h2 : In64 k.2) : num (keyBytes k) = k.1.toNat * 18446744073709551616 + turn k.2 := by
  unfold keyBytes
  rw [num_append, be_length, num_be 8 _ (turn_lt h2)]
  have : num [k.1.toNat / 256, k.1.toNat % 256] = k.1.toNat := by simp [num]; omega
  rw [this]
theorem num_lt_key {a b : K} (ha : isKey a = true) (hb : isKey b = true) (ia : In64 a.2) (ib : In64 b.2) : decide (num (keyBytes a) < num (keyBytes b)) = lt a b := by
  rw [num_keyBytes ia, num_keyBytes ib]
  have t1 := turn_lt ia
  have t2 := turn_lt ib
  have u1 := turn_int ia
  have u2 := turn_int ib
  simp only [isKey, Bool.and_eq_true, decide_eq_true_eq] at ha hb
  rw [Bool.eq_iff_iff, lt_iff, decide_eq_true_eq]
  omega
theorem from_keyBytes {k : K} (hk : isKey k = true) (h2 : In64 k.2) : fromK (keyBytes k) = k ∧ fromE (keyBytes k) = 0 := by
  have hl := keyBytes_length k
  refine ⟨?_, by unfold fromE; rw [if_neg (by omega), if_neg (by omega)]⟩
  unfold fromK fromB
  rw [if_pos hl]
  have e : (keyBytes k).drop 2 = be 8 (turn k.2) := rfl
  rw [e, num_be 8 _ (turn_lt h2), turn_int h2]
  have e0 : (keyBytes k).getD 0 0 = k.1.toNat / 256 := rfl
  have e1 : (keyBytes k).getD 1 0 = k.1.toNat % 256 := rfl
  rw [e0, e1]
  simp only [isKey, Bool.and_eq_true, decide_eq_true_eq] at hk
  obtain ⟨k1, k2⟩ := k
  simp only [Prod.mk.injEq] at *
  omega
theorem isKey_iff' (k : K) : isKey k = true ↔ 0 ≤ k.1 ∧ k.1 ≤ 65535 := by simp [isKey]
theorem keyBytes_from {zs : List Nat} (hl : zs.length = 10) (hz : ∀ z ∈ zs, z < 256) : isKey (fromB zs) = true ∧ In64 (fromB zs).2 ∧ keyBytes (fromB zs) = zs := by
  have hu := num10_lt zs hz hl
  have h0 := getD_lt hz 0
  have h1 := getD_lt hz 1
  refine ⟨?_, ?_, ?_⟩
  · rw [isKey_iff']; simp only [fromB]; omega
  · simp only [fromB, In64]; omega
  · unfold keyBytes
    have e : turn (fromB zs).2 = num (zs.drop 2) := by simp only [fromB, turn]; omega
    have hb := be_num (zs.drop 2) (fun z h => hz z (List.mem_of_mem_drop h))
    rw [show (zs.drop 2).length = 8 by simp; omega] at hb
    rw [e, hb]
    have t : (fromB zs).1.toNat = zs.getD 0 0 * 256 + zs.getD 1 0 := by simp only [fromB]; omega
    rw [t, show (zs.getD 0 0 * 256 + zs.getD 1 0) / 256 = zs.getD 0 0 by omega, show (zs.getD 0 0 * 256 + zs.getD 1 0) % 256 = zs.getD 1 0 by omega]
    obtain ⟨a, b, c, d, f, g, i, j, k, l, rfl⟩ := list10 hl
    rfl
theorem keyBytes_inj {a b : K} (ha : isKey a = true) (hb : isKey b = true) (ia : In64 a.2) (ib : In64 b.2) : decide (keyBytes a = keyBytes b) = decide (a = b) := by
  by_cases h : a = b
  · simp [h]
  · have : keyBytes a ≠ keyBytes b := fun e => h (by
      have h1 := (from_keyBytes ha ia).1
      rw [e, (from_keyBytes hb ib).1] at h1
      exact h1.symm)
    simp [h, this]

end Go.Proofs.Ytciogmenoighoaa.Kk
