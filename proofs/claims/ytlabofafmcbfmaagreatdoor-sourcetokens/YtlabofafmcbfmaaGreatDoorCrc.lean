/-
  PLAIN MATHEMATICS OF THE CHECK SUM (promise 1.6): the remainder, a bit at a time, on natural numbers. No program, no dump.
-/
namespace Go.Proofs.YtlabofafmcbfmaaGreatDoor.Crc

def poly : Nat := 3988292384
/-- one bit's step -/
def S (x : Nat) : Nat := (x / 2) ^^^ (if x % 2 = 1 then poly else 0)
/-- so many steps -/
def It : Nat → Nat → Nat
  | 0, x => x
  | n + 1, x => It n (S x)

theorem xor_mod2 (a b : Nat) : (a ^^^ b) % 2 = (a % 2 + b % 2) % 2 := by
  have h := Nat.xor_mod_two_pow (a := a) (b := b) (n := 1)
  rw [Nat.pow_one] at h
  rw [h]
  rcases Nat.mod_two_eq_zero_or_one a with ha | ha <;> rcases Nat.mod_two_eq_zero_or_one b with hb | hb <;> simp [ha, hb]
theorem xor_left (a b c : Nat) : a ^^^ (b ^^^ c) = b ^^^ (a ^^^ c) := by rw [← Nat.xor_assoc, Nat.xor_comm a b, Nat.xor_assoc]
theorem xor_cancel (a b : Nat) : a ^^^ (a ^^^ b) = b := by rw [← Nat.xor_assoc, Nat.xor_self, Nat.zero_xor]
theorem S_xor (a b : Nat) : S (a ^^^ b) = S a ^^^ S b := by
  unfold S
  rw [Nat.xor_div_two, xor_mod2]
  rcases Nat.mod_two_eq_zero_or_one a with ha | ha <;> rcases Nat.mod_two_eq_zero_or_one b with hb | hb <;> simp [ha, hb, Nat.xor_comm, xor_left, xor_cancel]
theorem S_zero : S 0 = 0 := by decide
theorem It_zero (n : Nat) : It n 0 = 0 := by
  induction n with
  | zero => rfl
  | succ n ih => simpa [It, S_zero] using ih
theorem It_xor (n a b : Nat) : It n (a ^^^ b) = It n a ^^^ It n b := by
  induction n generalizing a b with
  | zero => rfl
  | succ n ih => simp only [It, S_xor, ih]
theorem It_add (m n x : Nat) : It (m + n) x = It n (It m x) := by
  induction m generalizing x with
  | zero => simp [It]
  | succ m ih => rw [Nat.succ_add]; simp only [It, ih]
theorem It_succ (n x : Nat) : It (n + 1) x = S (It n x) := It_add n 1 x
theorem S_double (m : Nat) : S (2 * m) = m := by
  unfold S
  have h1 : 2 * m / 2 = m := by omega
  have h2 : ¬ 2 * m % 2 = 1 := by omega
  rw [h1, if_neg h2, Nat.xor_zero]
theorem It_shift (k m : Nat) : It k (2 ^ k * m) = m := by
  induction k generalizing m with
  | zero => simp [It]
  | succ k ih =>
    have e : 2 ^ (k + 1) * m = 2 * (2 ^ k * m) := by rw [Nat.pow_succ, Nat.mul_comm (2 ^ k) 2, Nat.mul_assoc]
    rw [e]; show It k (S (2 * (2 ^ k * m))) = m
    rw [S_double, ih]
theorem S_lt {x : Nat} (h : x < 4294967296) : S x < 4294967296 := by
  unfold S
  have h1 : x / 2 < 2 ^ 32 := by omega
  have h2 : (if x % 2 = 1 then poly else 0) < 2 ^ 32 := by split <;> decide
  exact Nat.xor_lt_two_pow h1 h2
theorem It_lt {x : Nat} (n : Nat) (h : x < 4294967296) : It n x < 4294967296 := by
  induction n generalizing x with
  | zero => exact h
  | succ n ih => exact ih (S_lt h)
theorem S_eq_zero {x : Nat} (h : x < 4294967296) (h0 : S x = 0) : x = 0 := by
  unfold S at h0
  have e : x / 2 = if x % 2 = 1 then poly else 0 := by
    have := congrArg (· ^^^ (if x % 2 = 1 then poly else 0)) h0
    simpa [Nat.xor_assoc] using this
  by_cases hp : x % 2 = 1
  · rw [if_pos hp] at e; unfold poly at e; omega
  · rw [if_neg hp] at e; omega
theorem It_eq_zero {x : Nat} (n : Nat) (h : x < 4294967296) (h0 : It n x = 0) : x = 0 := by
  induction n generalizing x with
  | zero => exact h0
  | succ n ih => exact S_eq_zero h (ih (S_lt h) h0)

/-- low bits and high bits -/
theorem low_high (k x : Nat) : x = x % 2 ^ k ^^^ 2 ^ k * (x / 2 ^ k) := by
  apply Nat.eq_of_testBit_eq
  intro i
  rw [Nat.testBit_xor, Nat.testBit_mod_two_pow, Nat.testBit_two_pow_mul]
  by_cases h : i < k
  · simp [h, Nat.not_le.2 h]
  · have h' : k ≤ i := by omega
    simp [h, h', Nat.testBit_div_two_pow]
theorem It_split (k x : Nat) : It k x = It k (x % 2 ^ k) ^^^ x / 2 ^ k := by
  conv => lhs; rw [low_high k x]
  rw [It_xor, It_shift]

/-! the table of half a byte -/
def tab : List Nat := [0, 498536548, 997073096, 651767980, 1994146192, 1802195444, 1303535960, 1342533948, 3988292384, 4027552580, 3604390888, 3412177804, 2607071920, 2262029012, 2685067896, 3183342108]
theorem tab_low : ∀ i, i < 16 → It 4 i = tab.getD i 0 := by decide
theorem tab_lt : ∀ i, i < 16 → tab.getD i 0 < 4294967296 := by decide
theorem It4 (x : Nat) : It 4 x = x / 16 ^^^ tab.getD (x % 16) 0 := by
  rw [It_split 4 x, tab_low (x % 2 ^ 4) (by omega), Nat.xor_comm]

/-! the sum of bytes -/
def crcStep (r c : Nat) : Nat := It 8 (r ^^^ c)
def crcFrom (r : Nat) (zs : List Nat) : Nat := zs.foldl crcStep r
def all1 : Nat := 4294967295
def sum (zs : List Nat) : Nat := 4294967295 - crcFrom all1 zs

theorem step_table (r c : Nat) : crcStep r c = (((r ^^^ c) / 16 ^^^ tab.getD ((r ^^^ c) % 16) 0) / 16) ^^^ tab.getD (((r ^^^ c) / 16 ^^^ tab.getD ((r ^^^ c) % 16) 0) % 16) 0 := by
  unfold crcStep
  rw [It_add 4 4, It4 (r ^^^ c), It4]
theorem crcStep_lt {r c : Nat} (hr : r < 4294967296) (hc : c < 256) : crcStep r c < 4294967296 :=
  It_lt 8 (Nat.xor_lt_two_pow (n := 32) hr (by omega))
theorem crcFrom_lt {r : Nat} (zs : List Nat) (hr : r < 4294967296) (hz : ∀ z ∈ zs, z < 256) : crcFrom r zs < 4294967296 := by
  induction zs generalizing r with
  | nil => exact hr
  | cons z zs ih => exact ih (crcStep_lt hr (hz z (by simp))) (fun y hy => hz y (by simp [hy]))
theorem crcFrom_snoc (r : Nat) (zs : List Nat) (z : Nat) : crcFrom r (zs ++ [z]) = crcStep (crcFrom r zs) z := by simp [crcFrom]

/-! bit by bit -/
theorem bit_step (r c k : Nat) : S (It k (r ^^^ c % 2 ^ k) ^^^ (c / 2 ^ k) % 2) = It (k + 1) (r ^^^ c % 2 ^ (k + 1)) := by
  have e : c % 2 ^ (k + 1) = c % 2 ^ k ^^^ 2 ^ k * ((c / 2 ^ k) % 2) := by
    have h := low_high k (c % 2 ^ (k + 1))
    have h1 : c % 2 ^ (k + 1) % 2 ^ k = c % 2 ^ k := Nat.mod_mod_of_dvd _ ⟨2, by rw [Nat.pow_succ]⟩
    have h2 : c % 2 ^ (k + 1) / 2 ^ k = (c / 2 ^ k) % 2 := by rw [Nat.pow_succ, Nat.mod_mul_right_div_self]
    rw [h1, h2] at h
    exact h
  rw [It_succ, e, ← Nat.xor_assoc, It_xor k (r ^^^ c % 2 ^ k), It_shift]
theorem S_unlike (x b : Nat) (hb : b < 2) : S (x ^^^ b) = if b = x % 2 then x / 2 else x / 2 ^^^ poly := by
  unfold S
  rw [Nat.xor_div_two, xor_mod2, show b / 2 = 0 by omega, Nat.xor_zero]
  by_cases h : b = x % 2
  · rw [if_pos h, if_neg (by omega), Nat.xor_zero]
  · rw [if_neg h, if_pos (by omega)]

/-! the sum as one number's remainder: what tells two texts apart -/
def val : List Nat → Nat
  | [] => 0
  | z :: zs => z + 256 * val zs
theorem add_eq_xor {c : Nat} (h : c < 256) (m : Nat) : c + 256 * m = c ^^^ 256 * m := by
  have e := low_high 8 (c + 256 * m)
  have h1 : (c + 256 * m) % 2 ^ 8 = c := by omega
  have h2 : (c + 256 * m) / 2 ^ 8 = m := by omega
  rw [h1, h2] at e
  exact e
theorem crcFrom_val (r : Nat) (zs : List Nat) (hz : ∀ z ∈ zs, z < 256) : crcFrom r zs = It (8 * zs.length) (r ^^^ val zs) := by
  induction zs generalizing r with
  | nil => simp [crcFrom, val, It]
  | cons z zs ih =>
    have hz' : ∀ y ∈ zs, y < 256 := fun y hy => hz y (by simp [hy])
    show crcFrom (crcStep r z) zs = _
    rw [ih _ hz', List.length_cons, show 8 * (zs.length + 1) = 8 + 8 * zs.length by omega, It_add 8]
    congr 1
    rw [val, add_eq_xor (hz z (by simp)), ← Nat.xor_assoc, It_xor 8 (r ^^^ z), show 256 = 2 ^ 8 by decide, It_shift]
    rfl
theorem xor_eq_zero {a b : Nat} (h : a ^^^ b = 0) : a = b := by
  have := congrArg (· ^^^ b) h
  simpa [Nat.xor_assoc] using this
theorem val_inj {as bs : List Nat} (hl : as.length = bs.length) (ha : ∀ z ∈ as, z < 256) (hb : ∀ z ∈ bs, z < 256) (h : val as = val bs) : as = bs := by
  induction as generalizing bs with
  | nil => cases bs with
    | nil => rfl
    | cons b bs => simp at hl
  | cons a as ih => cases bs with
    | nil => simp at hl
    | cons b bs =>
      have h1 := ha a (by simp)
      have h2 := hb b (by simp)
      simp only [val] at h
      have e1 : a = b := by omega
      have e2 : val as = val bs := by omega
      rw [e1, ih (by simpa using hl) (fun y hy => ha y (by simp [hy])) (fun y hy => hb y (by simp [hy])) e2]
/-- TWO TEXTS OF ONE LENGTH WHOSE BITS DIFFER WITHIN 32 SIDE BY SIDE: one sum, one text. -/
theorem burst {as bs : List Nat} (hl : as.length = bs.length) (ha : ∀ z ∈ as, z < 256) (hb : ∀ z ∈ bs, z < 256) (first e : Nat) (he : e < 4294967296) (hf : first ≤ 8 * as.length)
    (hd : val as ^^^ val bs = 2 ^ first * e) (hs : sum as = sum bs) : as = bs := by
  have la := crcFrom_lt as (show all1 < 4294967296 by decide) ha
  have lb := crcFrom_lt bs (show all1 < 4294967296 by decide) hb
  have hc : crcFrom all1 as = crcFrom all1 bs := by unfold sum at hs; omega
  rw [crcFrom_val _ _ ha, crcFrom_val _ _ hb, ← hl, It_xor, It_xor] at hc
  have h0 : It (8 * as.length) (val as ^^^ val bs) = 0 := by
    have h1 := congrArg (It (8 * as.length) all1 ^^^ ·) hc
    simp only [← Nat.xor_assoc, Nat.xor_self, Nat.zero_xor] at h1
    rw [It_xor, h1, Nat.xor_self]
  rw [hd, show 8 * as.length = first + (8 * as.length - first) by omega, It_add, It_shift] at h0
  have e0 := It_eq_zero _ he h0
  apply val_inj hl ha hb
  apply xor_eq_zero
  rw [hd, e0, Nat.mul_zero]

/-! a text in which one byte is changed -/
theorem mul_xor (k a b : Nat) : 2 ^ k * (a ^^^ b) = 2 ^ k * a ^^^ 2 ^ k * b := by
  apply Nat.eq_of_testBit_eq
  intro i
  simp only [Nat.testBit_xor, Nat.testBit_two_pow_mul]
  by_cases h : k ≤ i <;> simp [h]
theorem val_set : ∀ (L : List Nat) (i e : Nat), (∀ z ∈ L, z < 256) → e < 256 → i < L.length → val (L.set i (L.getD i 0 ^^^ e)) = val L ^^^ 2 ^ (8 * i) * e
  | [], i, e, _, _, hi => by simp at hi
  | z :: L, 0, e, hz, he, _ => by
    have h1 : z < 256 := hz z (by simp)
    have h2 : z ^^^ e < 256 := Nat.xor_lt_two_pow (n := 8) h1 he
    simp only [List.set_cons_zero, List.getD_cons_zero, val, Nat.mul_zero, Nat.pow_zero, Nat.one_mul]
    rw [add_eq_xor h1, add_eq_xor h2, Nat.xor_assoc, Nat.xor_assoc, Nat.xor_comm e]
  | z :: L, i + 1, e, hz, he, hi => by
    have h1 : z < 256 := hz z (by simp)
    have ih := val_set L i e (fun y hy => hz y (by simp [hy])) he (by simpa using hi)
    simp only [List.set_cons_succ, List.getD_cons_succ, val]
    rw [ih, add_eq_xor h1, add_eq_xor h1, Nat.xor_assoc, show (256 : Nat) = 2 ^ 8 from rfl, mul_xor, ← Nat.mul_assoc, ← Nat.pow_add, show 8 + 8 * i = 8 * (i + 1) by omega]
theorem set_lt {L : List Nat} (h : ∀ z ∈ L, z < 256) (i v : Nat) (hv : v < 256) : ∀ z ∈ L.set i v, z < 256 := by
  intro z hz
  rcases List.mem_or_eq_of_mem_set hz with h1 | h1
  · exact h z h1
  · omega

end Go.Proofs.YtlabofafmcbfmaaGreatDoor.Crc
