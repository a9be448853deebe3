/-
  KEYS AS PAIRS OF NUMBERS: order, bytes, hash.
-/
import Derived.Test.YtlabofafmcbfmaaGreatDoorRows
namespace Go.Proofs.YtlabofafmcbfmaaGreatDoor

/-- a key: its Table, its Row -/
abbrev K := Int × Int
def isKey (k : K) : Bool := decide (0 ≤ k.1) && decide (k.1 ≤ 65535)
def In64 (x : Int) : Prop := -9223372036854775808 ≤ x ∧ x ≤ 9223372036854775807
def KIn (k : K) : Prop := In64 k.1 ∧ In64 k.2
/-- the order -/
def lt (a b : K) : Bool := decide (a.1 < b.1) || (decide (a.1 = b.1) && decide (a.2 < b.2))
def cmp (a b : K) : Int := if lt a b then -1 else if lt b a then 1 else 0

theorem lt_iff (a b : K) : lt a b = true ↔ a.1 < b.1 ∨ (a.1 = b.1 ∧ a.2 < b.2) := by simp [lt]
theorem lt_false (a b : K) : lt a b = false ↔ b.1 < a.1 ∨ (a.1 = b.1 ∧ b.2 ≤ a.2) := by
  rw [← Bool.not_eq_true, lt_iff]; omega
theorem lt_irrefl (a : K) : lt a a = false := by rw [lt_false]; omega
theorem lt_trans {a b c : K} (h1 : lt a b = true) (h2 : lt b c = true) : lt a c = true := by rw [lt_iff] at *; omega
theorem lt_asymm {a b : K} (h1 : lt a b = true) : lt b a = false := by rw [lt_iff] at h1; rw [lt_false]; omega
theorem eq_of_not_lt {a b : K} (h1 : lt a b = false) (h2 : lt b a = false) : a = b := by
  rw [lt_false] at *
  obtain ⟨a1, a2⟩ := a; obtain ⟨b1, b2⟩ := b
  simp only at *
  have e1 : a1 = b1 := by omega
  have e2 : a2 = b2 := by omega
  rw [e1, e2]
theorem ne_of_lt {a b : K} (h : lt a b = true) : a ≠ b := by rintro rfl; rw [lt_irrefl] at h; cases h
theorem cmp_self (a : K) : cmp a a = 0 := by simp [cmp, lt_irrefl]
theorem cmp_lt {a b : K} (h : lt a b = true) : cmp a b = -1 := by simp [cmp, h]
theorem cmp_gt {a b : K} (h : lt b a = true) : cmp a b = 1 := by simp [cmp, h, lt_asymm h]
theorem cmp_neg (a b : K) : (cmp a b < 0) ↔ lt a b = true := by
  unfold cmp; cases lt a b <;> cases lt b a <;> simp
theorem cmp_zero (a b : K) : cmp a b = 0 ↔ a = b := by
  constructor
  · intro h
    unfold cmp at h
    by_cases h1 : lt a b = true
    · simp [h1] at h
    · by_cases h2 : lt b a = true
      · simp [h1, h2] at h
      · exact eq_of_not_lt (by simpa using h1) (by simpa using h2)
  · rintro rfl; exact cmp_self a

/-- a number's n bytes, the highest first -/
def be : Nat → Nat → List Nat
  | 0, _ => []
  | n + 1, u => be n (u / 256) ++ [u % 256]
theorem be_length (n u : Nat) : (be n u).length = n := by
  induction n generalizing u with
  | zero => rfl
  | succ n ih => simp [be, ih]
theorem be_lt (n u : Nat) : ∀ z ∈ be n u, z < 256 := by
  induction n generalizing u with
  | zero => simp [be]
  | succ n ih =>
    intro z hz
    rcases List.mem_append.1 hz with h | h
    · exact ih _ z h
    · simp at h; omega
/-- the number of bytes -/
def num (L : List Nat) : Nat := L.foldl (fun u c => u * 256 + c) 0
theorem num_snoc (L : List Nat) (c : Nat) : num (L ++ [c]) = num L * 256 + c := by simp [num]
theorem num_lt (L : List Nat) (h : ∀ z ∈ L, z < 256) : num L < 256 ^ L.length := by
  suffices H : ∀ n, ∀ L : List Nat, L.length = n → (∀ z ∈ L, z < 256) → num L < 256 ^ n from H _ L rfl h
  intro n
  induction n with
  | zero => intro L hl _; cases L with | nil => simp [num] | cons => simp at hl
  | succ n ih =>
    intro L hl h
    have hne : L ≠ [] := by rintro rfl; simp at hl
    rw [← List.dropLast_concat_getLast hne] at h ⊢
    rw [num_snoc]
    have h1 := ih L.dropLast (by simp; omega) (fun z hz => h z (by simp [hz]))
    have h2 := h (L.getLast hne) (by simp)
    rw [Nat.pow_succ]; omega
theorem num_be (n u : Nat) (h : u < 256 ^ n) : num (be n u) = u := by
  induction n generalizing u with
  | zero => simp at h; subst h; rfl
  | succ n ih =>
    rw [be, num_snoc, ih (u / 256) (by rw [Nat.pow_succ] at h; omega)]
    omega
theorem be_num (L : List Nat) (h : ∀ z ∈ L, z < 256) : be L.length (num L) = L := by
  suffices H : ∀ n, ∀ L : List Nat, L.length = n → (∀ z ∈ L, z < 256) → be n (num L) = L from H _ L rfl h
  intro n
  induction n with
  | zero => intro L hl _; cases L with | nil => rfl | cons => simp at hl
  | succ n ih =>
    intro L hl h
    have hne : L ≠ [] := by rintro rfl; simp at hl
    have e := List.dropLast_concat_getLast hne
    have h2 := h (L.getLast hne) (by simp)
    have h1 := ih L.dropLast (by simp; omega) (fun z hz => h z (List.dropLast_subset L hz))
    rw [← e, num_snoc, be, show (num L.dropLast * 256 + L.getLast hne) / 256 = num L.dropLast by omega, show (num L.dropLast * 256 + L.getLast hne) % 256 = L.getLast hne by omega, h1]

theorem be_cons (n u : Nat) : be (n + 1) u = (u / 256 ^ n % 256) :: be n u := by
  induction n generalizing u with
  | zero => simp [be]
  | succ n ih =>
    rw [be, ih (u / 256), be, Nat.div_div_eq_div_mul, ← Nat.pow_succ']
    rfl

/-- a Row's 64 bits, the highest turned -/
def turn (r : Int) : Nat := (r + 9223372036854775808).toNat
theorem turn_lt {r : Int} (h : In64 r) : turn r < 18446744073709551616 := by obtain ⟨h1, h2⟩ := h; unfold turn; omega
theorem turn_int {r : Int} (h : In64 r) : (turn r : Int) = r + 9223372036854775808 := by obtain ⟨h1, h2⟩ := h; unfold turn; omega
def keyBytes (k : K) : List Nat := [k.1.toNat / 256, k.1.toNat % 256] ++ be 8 (turn k.2)
theorem keyBytes_length (k : K) : (keyBytes k).length = 10 := by simp [keyBytes, be_length]
theorem keyBytes_lt {k : K} (h : isKey k = true) : ∀ z ∈ keyBytes k, z < 256 := by
  intro z hz
  simp [isKey] at h
  rcases List.mem_append.1 hz with h1 | h1
  · simp at h1; omega
  · exact be_lt _ _ z h1

/-- FNV-1a -/
def fnvStep (h c : Nat) : Nat := ((h ^^^ c) * 1099511628211) % 18446744073709551616
def fnv (L : List Nat) : Nat := L.foldl fnvStep 14695981039346656037
theorem fnv_snoc (L : List Nat) (c : Nat) : fnv (L ++ [c]) = fnvStep (fnv L) c := by unfold fnv; rw [List.foldl_append, List.foldl_cons, List.foldl_nil]
theorem fnv_lt (L : List Nat) : fnv L < 18446744073709551616 := by
  rcases List.eq_nil_or_concat L with rfl | ⟨L', c, rfl⟩
  · unfold fnv; rw [List.foldl_nil]; omega
  · rw [List.concat_eq_append, fnv_snoc]; unfold fnvStep; exact Nat.mod_lt _ (by omega)
def hash (k : K) : Nat := if isKey k then fnv (keyBytes k) else 0
theorem hash_lt (k : K) : hash k < 18446744073709551616 := by unfold hash; split; exact fnv_lt _; omega

theorem xor_top (x : Nat) (h : x < 18446744073709551616) : x ^^^ 9223372036854775808 = (x + 9223372036854775808) % 18446744073709551616 := by
  have e : (9223372036854775808 : Nat) = 2 ^ 63 := by decide
  have e2 : (18446744073709551616 : Nat) = 2 ^ 64 := by decide
  rw [e2] at h
  rw [e, e2]
  apply Nat.eq_of_testBit_eq
  intro i
  rw [Nat.testBit_xor, Nat.testBit_two_pow]
  by_cases hi : i < 64
  · rw [Nat.testBit_mod_two_pow]
    simp only [hi, decide_true, Bool.true_and]
    by_cases h63 : i = 63
    · subst h63
      rw [Nat.add_comm, Nat.testBit_two_pow_add_eq]; simp
    · rw [Nat.add_comm, Nat.testBit_two_pow_add_gt (by omega)]
      have : decide (63 = i) = false := by simp; omega
      rw [this]; simp
  · rw [Nat.testBit_lt_two_pow (Nat.lt_of_lt_of_le h (Nat.pow_le_pow_right (by omega) (by omega))), Nat.testBit_lt_two_pow (Nat.lt_of_lt_of_le (Nat.mod_lt _ (by decide)) (Nat.pow_le_pow_right (by omega) (by omega)))]
    simp; omega

end Go.Proofs.YtlabofafmcbfmaaGreatDoor
