import Derived.Test.YtlilaicgmdbhcaaJ04
import Derived.Test.YtlilaicgmdbhcaaJ16
import Derived.Test.YtlilaicgmdbhcaaJ21
/-
  KEYS' BYTES, THERE AND BACK.
-/
namespace Go.Proofs.Ytlilaicgmdbhcaa.Kk
open Go.RowKit Go.Sort

theorem num_from (B : List Nat) (u : Nat) : B.foldl (fun u c => u * 256 + c) u = u * 256 ^ B.length + num B := by
  induction B generalizing u with
  | nil => simp [num]
  | cons b B ih =>
    unfold num
    rw [List.foldl_cons, List.foldl_cons, ih, ih (0 * 256 + b), List.length_cons, Nat.pow_succ, Nat.add_mul, Nat.zero_mul, Nat.zero_add, Nat.mul_assoc, Nat.mul_comm 256, Nat.add_assoc]
theorem num_append (A B : List Nat) : num (A ++ B) = num A * 256 ^ B.length + num B := by
  rw [← num_from B (num A)]; unfold num; rw [List.foldl_append]
theorem num_cons (x : Nat) (X : List Nat) : num (x :: X) = x * 256 ^ X.length + num X := by
  have := num_append [x] X
  simpa [num] using this
theorem num_diff (P X Y : List Nat) (x y : Nat) (hl : X.length = Y.length) (hX : ∀ z ∈ X, z < 256) (hY : ∀ z ∈ Y, z < 256) (hne : x ≠ y) : (num (P ++ x :: X) < num (P ++ y :: Y)) ↔ x < y := by
  rw [num_append, num_append, num_cons, num_cons, List.length_cons, List.length_cons, hl]
  have h1 := num_lt X hX
  have h2 := num_lt Y hY
  rw [hl] at h1
  generalize 256 ^ Y.length = m at *
  generalize num P * 256 ^ (Y.length + 1) = p at *
  constructor
  · intro h
    rcases Nat.lt_or_ge x y with h3 | h3
    · exact h3
    · have : y + 1 ≤ x := by omega
      have := Nat.mul_le_mul_right m this
      rw [Nat.add_mul] at this
      omega
  · intro h
    have : x + 1 ≤ y := by omega
    have := Nat.mul_le_mul_right m this
    rw [Nat.add_mul] at this
    omega
theorem split_at (xs : List Nat) (k : Nat) (h : k < xs.length) : xs = xs.take k ++ xs.getD k 0 :: xs.drop (k + 1) := by
  rw [List.getD_eq_getElem?_getD, List.getElem?_eq_getElem h]
  simp
theorem below_at (xs ys : List Nat) (k : Nat) (hl : xs.length = ys.length) (hk : k < xs.length) (hx : ∀ z ∈ xs, z < 256) (hy : ∀ z ∈ ys, z < 256) (hp : xs.take k = ys.take k) (hne : xs.getD k 0 ≠ ys.getD k 0) :
    decide (num xs < num ys) = decide (xs.getD k 0 < ys.getD k 0) := by
  have h := num_diff (xs.take k) (xs.drop (k + 1)) (ys.drop (k + 1)) (xs.getD k 0) (ys.getD k 0) (by simp; omega) (fun z hz => hx z (List.mem_of_mem_drop hz)) (fun z hz => hy z (List.mem_of_mem_drop hz)) hne
  have e1 := split_at xs k hk
  have e2 := split_at ys k (by omega)
  rw [← hp] at e2
  rw [← e1, ← e2] at h
  simp [h]

/-- a key as one number -/
theorem num_keyBytes {k : K} (h2 : In64 k.2) : num (keyBytes k) = k.1.toNat * 18446744073709551616 + turn k.2 := by
  unfold keyBytes
  rw [num_append, be_length, num_be 8 _ (turn_lt h2)]
  have : num [k.1.toNat / 256, k.1.toNat % 256] = k.1.toNat := by simp [num]; omega
  rw [this]
theorem num_lt_key {a b : K} (ha : isKey a = true) (hb : isKey b = true) (ia : In64 a.2) (ib : In64 b.2) : decide (num (keyBytes a) < num (keyBytes b)) = lt a b := by
  rw [num_keyBytes ia, num_keyBytes ib]
  have t1 := turn_lt ia
  have t2 := turn_lt ib
  have u1 := turn_int ia
  have u2 := turn_int ib
  simp only [isKey, Bool.and_eq_true, decide_eq_true_eq] at ha hb
  rw [Bool.eq_iff_iff, lt_iff, decide_eq_true_eq]
  omega
theorem from_keyBytes {k : K} (hk : isKey k = true) (h2 : In64 k.2) : fromK (keyBytes k) = k ∧ fromE (keyBytes k) = 0 := by
  have hl := keyBytes_length k
  refine ⟨?_, by unfold fromE; rw [if_neg (by omega), if_neg (by omega)]⟩
  unfold fromK fromB
  rw [if_pos hl]
  have e : (keyBytes k).drop 2 = be 8 (turn k.2) := rfl
  rw [e, num_be 8 _ (turn_lt h2), turn_int h2]
  have e0 : (keyBytes k).getD 0 0 = k.1.toNat / 256 := rfl
  have e1 : (keyBytes k).getD 1 0 = k.1.toNat % 256 := rfl
  rw [e0, e1]
  simp only [isKey, Bool.and_eq_true, decide_eq_true_eq] at hk
  obtain ⟨k1, k2⟩ := k
  simp only [Prod.mk.injEq] at *
  omega
theorem isKey_iff' (k : K) : isKey k = true ↔ 0 ≤ k.1 ∧ k.1 ≤ 65535 := by simp [isKey]
theorem keyBytes_from {zs : List Nat} (hl : zs.length = 10) (hz : ∀ z ∈ zs, z < 256) : isKey (fromB zs) = true ∧ In64 (fromB zs).2 ∧ keyBytes (fromB zs) = zs := by
  have hu := num10_lt zs hz hl
  have h0 := getD_lt hz 0
  have h1 := getD_lt hz 1
  refine ⟨?_, ?_, ?_⟩
  · rw [isKey_iff']; simp only [fromB]; omega
  · simp only [fromB, In64]; omega
  · unfold keyBytes
    have e : turn (fromB zs).2 = num (zs.drop 2) := by simp only [fromB, turn]; omega
    have hb := be_num (zs.drop 2) (fun z h => hz z (List.mem_of_mem_drop h))
    rw [show (zs.drop 2).length = 8 by simp; omega] at hb
    rw [e, hb]
    have t : (fromB zs).1.toNat = zs.getD 0 0 * 256 + zs.getD 1 0 := by simp only [fromB]; omega
    rw [t, show (zs.getD 0 0 * 256 + zs.getD 1 0) / 256 = zs.getD 0 0 by omega, show (zs.getD 0 0 * 256 + zs.getD 1 0) % 256 = zs.getD 1 0 by omega]
    obtain ⟨a, b, c, d, f, g, i, j, k, l, rfl⟩ := list10 hl
    rfl
theorem keyBytes_inj {a b : K} (ha : isKey a = true) (hb : isKey b = true) (ia : In64 a.2) (ib : In64 b.2) : decide (keyBytes a = keyBytes b) = decide (a = b) := by
  by_cases h : a = b
  · simp [h]
  · have : keyBytes a ≠ keyBytes b := fun e => h (by
      have h1 := (from_keyBytes ha ia).1
      rw [e, (from_keyBytes hb ib).1] at h1
      exact h1.symm)
    simp [h, this]

end Go.Proofs.Ytlilaicgmdbhcaa.Kk
/-
  A BATCH's BYTES, AND BACK.
-/
namespace Go.Proofs.Ytlilaicgmdbhcaa.Kk
open Go.RowKit Go.Sort

theorem hfk (k : K) (h : isKey k = true) (h2 : In64 k.2) : fromK (keyBytes k) = k := (from_keyBytes h h2).1
theorem fold_unfold (n : Nat) : fold (unfold n) = n := by
  unfold fold unfold
  split
  · split <;> omega
  · split <;> omega
theorem unfold_in {n : Nat} (h : n < 18446744073709551616) : In64 (unfold n) := by
  unfold unfold In64
  split <;> omega
/-- a number that was read -/
theorem upR_ate {b : List Nat} (hz : ∀ z ∈ b, z < 256) {most p n q : Nat} (hp : p ≤ b.length) (h : upR b most p = .ok (n, q)) : b.drop p = uint 10 n ++ b.drop q ∧ n ≤ most ∧ q = p + (uint 10 n).length ∧ q ≤ b.length ∧ n < 18446744073709551616 := by
  have hle := upto_le b p most
  unfold upR at h
  split at h
  · rename_i h0
    simp only [Except.ok.injEq, Prod.mk.injEq] at h
    obtain ⟨rfl, rfl⟩ := h
    unfold rdUpto at h0 hle ⊢
    rw [if_neg (by simp)] at h0 hle ⊢
    split at h0
    · rename_i hs; exact absurd (by simpa using h0) hs
    · rename_i hs
      rw [if_neg hs] at hle ⊢
      split at h0
      · cases h0
      · rename_i hm
        rw [if_neg hm] at hle ⊢
        obtain ⟨n, k, e⟩ : ∃ n k, scan (b.drop p) = (n, k, 0) := by
          have h3 : (scan (b.drop p)).2.2 = 0 := by simpa using hs
          exact ⟨(scan (b.drop p)).1, (scan (b.drop p)).2.1, by rw [← h3]⟩
        obtain ⟨h1, _, h3, h4⟩ := scan_one _ n k (fun z h => hz z (List.mem_of_mem_drop h)) e
        rw [e] at hle ⊢
        simp only at hle ⊢
        have hk : (uint 10 n).length = k := by rw [← h4, List.length_take]; omega
        rw [List.length_drop] at h3
        refine ⟨?_, hle, by rw [hk], by omega, h1⟩
        rw [← List.drop_drop, ← h4, List.take_append_drop]
  · cases h
theorem argsR_ate {b : List Nat} (hz : ∀ z ∈ b, z < 256) : ∀ (n : Nat) (acc A : List Int) (p q : Nat), p ≤ b.length → argsR b n acc p = .ok (A, q) → ∃ A', A = acc ++ A' ∧ A'.length = n ∧ b.drop p = argsT A' ++ b.drop q ∧ q = p + (argsT A').length ∧ q ≤ b.length ∧ ∀ z ∈ A', In64 z
  | 0, acc, A, p, q, hp, h => by
    simp only [argsR, Except.ok.injEq, Prod.mk.injEq] at h
    obtain ⟨rfl, rfl⟩ := h
    exact ⟨[], by simp, rfl, by simp [argsT], by simp [argsT], hp, by simp⟩
  | n + 1, acc, A, p, q, hp, h => by
    rw [argsR] at h
    unfold intR at h
    cases hu : upR b 18446744073709551615 p with
    | error x => rw [hu] at h; cases h
    | ok x =>
      obtain ⟨m, q1⟩ := x
      rw [hu] at h
      simp only at h
      obtain ⟨h1, _, h3, h4, h5⟩ := upR_ate hz hp hu
      obtain ⟨A', e, hl, hd, hq, hq2, hin⟩ := argsR_ate hz n _ A q1 q h4 h
      have ea : argsT (unfold m :: A') = uint 10 m ++ argsT A' := by simp [argsT, fold_unfold]
      refine ⟨unfold m :: A', by rw [e]; simp, by simp [hl], by rw [ea, List.append_assoc, ← hd, h1], by rw [ea, hq, h3, List.length_append]; omega, hq2, fun z hz => ?_⟩
      rcases List.mem_cons.1 hz with rfl | hz
      · exact unfold_in h5
      · exact hin z hz
theorem argR_ate {b : List Nat} (hz : ∀ z ∈ b, z < 256) {p q : Nat} {A : List Int} (hp : p ≤ b.length) (h : argR b p = .ok (A, q)) : b.drop p = argsN A ++ b.drop q ∧ A.length ≤ 16 ∧ q = p + (argsN A).length ∧ q ≤ b.length ∧ ∀ z ∈ A, In64 z := by
  unfold argR at h
  cases hu : upR b 16 p with
  | error x => rw [hu] at h; cases h
  | ok x =>
    obtain ⟨n, q1⟩ := x
    rw [hu] at h
    simp only at h
    obtain ⟨h1, h2, h3, h4, h5⟩ := upR_ate hz hp hu
    obtain ⟨A', e, hl, hd, hq, hq2, hin⟩ := argsR_ate hz n [] A q1 q h4 h
    rw [List.nil_append] at e
    subst e
    subst hl
    have ea : argsN A = uint 10 A.length ++ argsT A := rfl
    exact ⟨by rw [ea, List.append_assoc, ← hd, h1], h2, by rw [ea, hq, h3, List.length_append]; omega, hq2, hin⟩
theorem keysR_ate {b : List Nat} (hz : ∀ z ∈ b, z < 256) : ∀ (n : Nat) (acc L : List K) (p q : Nat), p ≤ b.length → Rise acc → keysR b n acc p = .ok (L, q) → Rise L ∧ ∃ L', L = acc ++ L' ∧ L'.length = n ∧ b.drop p = L'.flatMap keyBytes ++ b.drop q ∧ q = p + L'.length * 10 ∧ q ≤ b.length ∧ ∀ z ∈ L', KIn z
  | 0, acc, A, p, q, hp, hr, h => by
    simp only [keysR, Except.ok.injEq, Prod.mk.injEq] at h
    obtain ⟨rfl, rfl⟩ := h
    exact ⟨hr, [], by simp, rfl, by simp, by simp, hp, by simp⟩
  | n + 1, acc, A, p, q, hp, hr, h => by
    rw [keysR] at h
    unfold keyR at h
    by_cases hl : p + 10 ≤ b.length
    · rw [if_pos hl] at h
      simp only at h
      have h10 : ((b.drop p).take 10).length = 10 := by simp; omega
      have hb : ∀ z ∈ (b.drop p).take 10, z < 256 := fun z h => hz z (List.mem_of_mem_drop (List.mem_of_mem_take h))
      obtain ⟨k1, k2, k3⟩ := keyBytes_from h10 hb
      have ek : fromK ((b.drop p).take 10) = fromB ((b.drop p).take 10) := by unfold fromK; rw [if_pos h10]
      rw [ek] at h
      generalize hk : fromB ((b.drop p).take 10) = k at *
      split at h
      · cases h
      · rename_i hlt
        have hr2 : Rise (acc ++ [k]) := by
          refine rise_snoc hr k1 (fun i y hi hy => ?_)
          have hne : acc ≠ [] := by intro e; rw [e] at hi; simp at hi
          have hkd : kd acc (acc.length - 1) = y := by
            have := kd_get (L := acc) (j := acc.length - 1) (by omega)
            rw [show acc.length - 1 = i by omega, hy] at this
            rw [show acc.length - 1 = i by omega]
            exact (Option.some.inj this).symm
          cases hc : lt y k with
          | true => rfl
          | false => exact absurd ⟨hne, by rw [hkd]; exact hc⟩ hlt
        obtain ⟨hR, L', e, hl', hd, hq, hq2, hin⟩ := keysR_ate hz n _ A (p + 10) q hl hr2 h
        refine ⟨hR, k :: L', by rw [e]; simp, by simp [hl'], ?_, by rw [hq, List.length_cons]; omega, hq2, fun z hz' => ?_⟩
        · rw [List.flatMap_cons, List.append_assoc, ← hd, k3, ← List.drop_drop, List.take_append_drop]
        · rcases List.mem_cons.1 hz' with rfl | hz'
          · refine ⟨?_, k2⟩
            rw [isKey_iff'] at k1
            unfold In64; omega
          · exact hin z hz'
    · rw [if_neg hl] at h; cases h
theorem setR_ate {b : List Nat} (hz : ∀ z ∈ b, z < 256) {p q : Nat} {L : List K} (hp : p ≤ b.length) (h : setR b 16 p = .ok (L, q)) : b.drop p = setN L ++ b.drop q ∧ L.length ≤ 16 ∧ q = p + (setN L).length ∧ q ≤ b.length ∧ Rise L ∧ ∀ z ∈ L, KIn z := by
  unfold setR at h
  cases hu : upR b 16 p with
  | error x => rw [hu] at h; cases h
  | ok x =>
    obtain ⟨n, q1⟩ := x
    rw [hu] at h
    simp only at h
    obtain ⟨h1, h2, h3, h4, h5⟩ := upR_ate hz hp hu
    obtain ⟨hR, A', e, hl, hd, hq, hq2, hin⟩ := keysR_ate hz n [] L q1 q h4 rise_nil h
    rw [List.nil_append] at e
    subst e
    subst hl
    have ea : setN L = uint 10 L.length ++ L.flatMap keyBytes := rfl
    exact ⟨by rw [ea, List.append_assoc, ← hd, h1], h2, by rw [ea, hq, h3, List.length_append, keysT_length]; omega, hq2, hR, hin⟩
theorem txR_ate {b : List Nat} (hz : ∀ z ∈ b, z < 256) {p q : Nat} {t : Tp} (hp : p ≤ b.length) (h : txR b p = .ok (t, q)) : b.drop p = txN t ++ b.drop q ∧ q = p + (txN t).length ∧ q ≤ b.length ∧ WF t ∧ TIn t := by
  unfold txR at h
  cases h1 : upR b 63 p with
  | error x => rw [h1] at h; cases h
  | ok x =>
    obtain ⟨n, p1⟩ := x
    rw [h1] at h; simp only at h
    obtain ⟨d1, l1, q1, b1, n1⟩ := upR_ate hz hp h1
    cases h2 : argR b p1 with
    | error x => rw [h2] at h; cases h
    | ok x =>
      obtain ⟨A, p2⟩ := x
      rw [h2] at h; simp only at h
      obtain ⟨d2, l2, q2, b2, i2⟩ := argR_ate hz b1 h2
      cases h3 : setR b 16 p2 with
      | error x => rw [h3] at h; cases h
      | ok x =>
        obtain ⟨R, p3⟩ := x
        rw [h3] at h; simp only at h
        obtain ⟨d3, l3, q3, b3, r3, i3⟩ := setR_ate hz b2 h3
        cases h4 : setR b 16 p3 with
        | error x => rw [h4] at h; cases h
        | ok x =>
          obtain ⟨V, p4⟩ := x
          rw [h4] at h; simp only [Except.ok.injEq, Prod.mk.injEq] at h
          obtain ⟨d4, l4, q4, b4, r4, i4⟩ := setR_ate hz b3 h4
          obtain ⟨rfl, rfl⟩ := h
          have e : txN ⟨(n : Int), A, R, V⟩ = uint 10 n ++ (argsN A ++ (setN R ++ setN V)) := by simp [txN]
          refine ⟨by rw [e]; simp only [List.append_assoc]; rw [← d4, ← d3, ← d2, ← d1], by rw [e, q4, q3, q2, q1]; simp only [List.length_append]; omega, b4, ⟨?_, ?_, l2, l3, l4, r3, r4⟩, ⟨i2, i3, i4⟩⟩
          · show (0 : Int) ≤ (n : Int); omega
          · show (n : Int) < 64; omega
theorem txsR_ate {b : List Nat} (hz : ∀ z ∈ b, z < 256) : ∀ (n : Nat) (acc T : List Tp) (p q : Nat), p ≤ b.length → txsR b n acc p = .ok (T, q) → ∃ T', T = acc ++ T' ∧ T'.length = n ∧ b.drop p = T'.flatMap txN ++ b.drop q ∧ q = p + (T'.flatMap txN).length ∧ q ≤ b.length ∧ ∀ t ∈ T', WF t ∧ TIn t
  | 0, acc, A, p, q, hp, h => by
    simp only [txsR, Except.ok.injEq, Prod.mk.injEq] at h
    obtain ⟨rfl, rfl⟩ := h
    exact ⟨[], by simp, rfl, by simp, by simp, hp, by simp⟩
  | n + 1, acc, A, p, q, hp, h => by
    rw [txsR] at h
    cases hu : txR b p with
    | error x => rw [hu] at h; cases h
    | ok x =>
      obtain ⟨t, q1⟩ := x
      rw [hu] at h
      simp only at h
      obtain ⟨h1, h3, h4, h5, h6⟩ := txR_ate hz hp hu
      obtain ⟨A', e, hl, hd, hq, hq2, hin⟩ := txsR_ate hz n _ A q1 q h4 h
      refine ⟨t :: A', by rw [e]; simp, by simp [hl], by rw [List.flatMap_cons, List.append_assoc, ← hd, h1], by rw [List.flatMap_cons, hq, h3, List.length_append]; omega, hq2, fun z hz => ?_⟩
      rcases List.mem_cons.1 hz with rfl | hz
      · exact ⟨h5, h6⟩
      · exact hin z hz
/-- what is read is what is written -/
theorem decR_back {b : List Nat} (hz : ∀ z ∈ b, z < 256) {T : List Tp} (h : decR b = .ok T) : batN T = b ∧ T.length ≤ 64 ∧ ∀ t ∈ T, WF t ∧ TIn t := by
  unfold decR at h
  cases hb : batR b 0 with
  | error x => rw [hb] at h; cases h
  | ok x =>
    obtain ⟨T1, q⟩ := x
    rw [hb] at h; simp only at h
    split at h
    · rename_i hq
      simp only [Except.ok.injEq] at h
      subst h
      unfold batR at hb
      cases hu : upR b 64 0 with
      | error x => rw [hu] at hb; cases hb
      | ok x =>
        obtain ⟨n, q1⟩ := x
        rw [hu] at hb; simp only at hb
        obtain ⟨h1, h2, h3, h4, h5⟩ := upR_ate hz (Nat.zero_le _) hu
        obtain ⟨A', e, hl, hd, _, _, hin⟩ := txsR_ate hz n [] T1 q1 q h4 hb
        rw [List.nil_append] at e
        subst e
        subst hl
        refine ⟨?_, h2, hin⟩
        unfold batN
        rw [hq, List.drop_length, List.append_nil] at hd
        rw [← hd, ← h1]; simp
    · cases h
end Go.Proofs.Ytlilaicgmdbhcaa.Kk
/-
  WHERE BYTES ARE REFUSED.
-/
namespace Go.Proofs.Ytlilaicgmdbhcaa.Kk
open Go.RowKit Go.Sort

theorem upR_err {b : List Nat} {most p q : Nat} {x : Int} (h : upR b most p = .error (q, x)) : q = p ∧ x ≠ 0 := by
  unfold upR at h
  split at h
  · cases h
  · rename_i h0
    simp only [Except.error.injEq, Prod.mk.injEq] at h
    obtain ⟨rfl, rfl⟩ := h
    refine ⟨?_, h0⟩
    unfold rdUpto at h0 ⊢
    rw [if_neg (by simp)] at h0 ⊢
    split
    · rfl
    · rename_i hs
      rw [if_neg hs] at h0
      split
      · rfl
      · rename_i hm; rw [if_neg hm] at h0; exact absurd rfl h0
theorem argsR_err {b : List Nat} (hz : ∀ z ∈ b, z < 256) : ∀ (n : Nat) (acc : List Int) (p q : Nat) (x : Int), p ≤ b.length → argsR b n acc p = .error (q, x) → q ≤ b.length ∧ x ≠ 0
  | 0, acc, p, q, x, hp, h => by simp [argsR] at h
  | n + 1, acc, p, q, x, hp, h => by
    rw [argsR] at h
    unfold intR at h
    cases hu : upR b 18446744073709551615 p with
    | error y =>
      obtain ⟨q1, x1⟩ := y
      rw [hu] at h
      simp only [Except.error.injEq, Prod.mk.injEq] at h
      obtain ⟨rfl, rfl⟩ := h
      have := upR_err hu
      exact ⟨by omega, this.2⟩
    | ok y =>
      obtain ⟨m, q1⟩ := y
      rw [hu] at h
      simp only at h
      exact argsR_err hz n _ q1 q x (upR_ate hz hp hu).2.2.2.1 h
theorem argR_err {b : List Nat} (hz : ∀ z ∈ b, z < 256) {p q : Nat} {x : Int} (hp : p ≤ b.length) (h : argR b p = .error (q, x)) : q ≤ b.length ∧ x ≠ 0 := by
  unfold argR at h
  cases hu : upR b 16 p with
  | error y =>
    obtain ⟨q1, x1⟩ := y
    rw [hu] at h
    simp only [Except.error.injEq, Prod.mk.injEq] at h
    obtain ⟨rfl, rfl⟩ := h
    have := upR_err hu
    exact ⟨by omega, this.2⟩
  | ok y =>
    obtain ⟨m, q1⟩ := y
    rw [hu] at h
    exact argsR_err hz m [] q1 q x (upR_ate hz hp hu).2.2.2.1 h
theorem keysR_err {b : List Nat} : ∀ (n : Nat) (acc : List K) (p q : Nat) (x : Int), p ≤ b.length → keysR b n acc p = .error (q, x) → q ≤ b.length ∧ x ≠ 0
  | 0, acc, p, q, x, hp, h => by simp [keysR] at h
  | n + 1, acc, p, q, x, hp, h => by
    rw [keysR] at h
    unfold keyR at h
    by_cases hl : p + 10 ≤ b.length
    · rw [if_pos hl] at h
      simp only at h
      split at h
      · simp only [Except.error.injEq, Prod.mk.injEq] at h
        obtain ⟨rfl, rfl⟩ := h
        exact ⟨hp, by omega⟩
      · exact keysR_err n _ (p + 10) q x hl h
    · rw [if_neg hl] at h
      simp only [Except.error.injEq, Prod.mk.injEq] at h
      obtain ⟨rfl, rfl⟩ := h
      exact ⟨hp, by omega⟩
theorem setR_err {b : List Nat} (hz : ∀ z ∈ b, z < 256) {p q : Nat} {x : Int} (hp : p ≤ b.length) (h : setR b 16 p = .error (q, x)) : q ≤ b.length ∧ x ≠ 0 := by
  unfold setR at h
  cases hu : upR b 16 p with
  | error y =>
    obtain ⟨q1, x1⟩ := y
    rw [hu] at h
    simp only [Except.error.injEq, Prod.mk.injEq] at h
    obtain ⟨rfl, rfl⟩ := h
    have := upR_err hu
    exact ⟨by omega, this.2⟩
  | ok y =>
    obtain ⟨m, q1⟩ := y
    rw [hu] at h
    exact keysR_err m [] q1 q x (upR_ate hz hp hu).2.2.2.1 h
theorem txR_err {b : List Nat} (hz : ∀ z ∈ b, z < 256) {p q : Nat} {x : Int} (hp : p ≤ b.length) (h : txR b p = .error (q, x)) : q ≤ b.length ∧ x ≠ 0 := by
  unfold txR at h
  cases h1 : upR b 63 p with
  | error y =>
    obtain ⟨q1, x1⟩ := y
    rw [h1] at h
    simp only [Except.error.injEq, Prod.mk.injEq] at h
    obtain ⟨rfl, rfl⟩ := h
    have := upR_err h1
    exact ⟨by omega, this.2⟩
  | ok y =>
    obtain ⟨n, p1⟩ := y
    rw [h1] at h; simp only at h
    have b1 := (upR_ate hz hp h1).2.2.2.1
    cases h2 : argR b p1 with
    | error y =>
      obtain ⟨q1, x1⟩ := y
      rw [h2] at h
      simp only [Except.error.injEq, Prod.mk.injEq] at h
      obtain ⟨rfl, rfl⟩ := h
      exact argR_err hz b1 h2
    | ok y =>
      obtain ⟨A, p2⟩ := y
      rw [h2] at h; simp only at h
      have b2 := (argR_ate hz b1 h2).2.2.2.1
      cases h3 : setR b 16 p2 with
      | error y =>
        obtain ⟨q1, x1⟩ := y
        rw [h3] at h
        simp only [Except.error.injEq, Prod.mk.injEq] at h
        obtain ⟨rfl, rfl⟩ := h
        exact setR_err hz b2 h3
      | ok y =>
        obtain ⟨R, p3⟩ := y
        rw [h3] at h; simp only at h
        have b3 := (setR_ate hz b2 h3).2.2.2.1
        cases h4 : setR b 16 p3 with
        | error y =>
          obtain ⟨q1, x1⟩ := y
          rw [h4] at h
          simp only [Except.error.injEq, Prod.mk.injEq] at h
          obtain ⟨rfl, rfl⟩ := h
          exact setR_err hz b3 h4
        | ok y => rw [h4] at h; cases h
theorem txsR_err {b : List Nat} (hz : ∀ z ∈ b, z < 256) : ∀ (n : Nat) (acc : List Tp) (p q : Nat) (x : Int), p ≤ b.length → txsR b n acc p = .error (q, x) → q ≤ b.length ∧ x ≠ 0
  | 0, acc, p, q, x, hp, h => by simp [txsR] at h
  | n + 1, acc, p, q, x, hp, h => by
    rw [txsR] at h
    cases hu : txR b p with
    | error y =>
      obtain ⟨q1, x1⟩ := y
      rw [hu] at h
      simp only [Except.error.injEq, Prod.mk.injEq] at h
      obtain ⟨rfl, rfl⟩ := h
      exact txR_err hz hp hu
    | ok y =>
      obtain ⟨m, q1⟩ := y
      rw [hu] at h
      simp only at h
      exact txsR_err hz n _ q1 q x (txR_ate hz hp hu).2.2.1 h
theorem decR_err {b : List Nat} (hz : ∀ z ∈ b, z < 256) {q : Nat} {x : Int} (h : decR b = .error (q, x)) : q ≤ b.length ∧ x ≠ 0 := by
  unfold decR at h
  cases hb : batR b 0 with
  | error y =>
    obtain ⟨q1, x1⟩ := y
    rw [hb] at h
    simp only [Except.error.injEq, Prod.mk.injEq] at h
    obtain ⟨rfl, rfl⟩ := h
    unfold batR at hb
    cases hu : upR b 64 0 with
    | error y =>
      obtain ⟨q2, x2⟩ := y
      rw [hu] at hb
      simp only [Except.error.injEq, Prod.mk.injEq] at hb
      obtain ⟨rfl, rfl⟩ := hb
      have := upR_err hu
      exact ⟨by omega, this.2⟩
    | ok y =>
      obtain ⟨m, q2⟩ := y
      rw [hu] at hb
      exact txsR_err hz m [] q2 _ _ (upR_ate hz (Nat.zero_le _) hu).2.2.2.1 hb
  | ok y =>
    obtain ⟨T, q1⟩ := y
    rw [hb] at h; simp only at h
    split at h
    · cases h
    · simp only [Except.error.injEq, Prod.mk.injEq] at h
      obtain ⟨rfl, rfl⟩ := h
      unfold batR at hb
      cases hu : upR b 64 0 with
      | error y => rw [hu] at hb; cases hb
      | ok y =>
        obtain ⟨m, q2⟩ := y
        rw [hu] at hb; simp only at hb
        obtain ⟨_, _, _, _, _, h6, _⟩ := txsR_ate hz m [] T q2 q1 (upR_ate hz (Nat.zero_le _) hu).2.2.2.1 hb
        exact ⟨h6, by omega⟩
end Go.Proofs.Ytlilaicgmdbhcaa.Kk
