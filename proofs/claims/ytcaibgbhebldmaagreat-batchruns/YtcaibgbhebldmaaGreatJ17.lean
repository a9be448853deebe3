import Derived.Test.YtcaibgbhebldmaaGreatJ16
/-
  WHERE BYTES ARE REFUSED.
-/
namespace Go.Proofs.YtcaibgbhebldmaaGreat.Kk
open Go.RowKit Go.Sort

theorem upR_err {b : List Nat} {most p q : Nat} {x : Int} (h : upR b most p = .error (q, x)) : q = p ∧ x ≠ 0 := by
  unfold upR at h
  split at h
  · cases h
  · rename_i h0
    simp only [Except.error.injEq, Prod.mk.injEq] at h
    obtain ⟨rfl, rfl⟩ := h
    refine ⟨?_, h0⟩
    unfold rdUpto at h0 ⊢
    rw [if_neg (by simp)] at h0 ⊢
    split
    · rfl
    · rename_i hs
      rw [if_neg hs] at h0
      split
      · rfl
      · rename_i hm; rw [if_neg hm] at h0; exact absurd rfl h0
theorem argsR_err {b : List Nat} (hz : ∀ z ∈ b, z < 256) : ∀ (n : Nat) (acc : List Int) (p q : Nat) (x : Int), p ≤ b.length → argsR b n acc p = .error (q, x) → q ≤ b.length ∧ x ≠ 0
  | 0, acc, p, q, x, hp, h => by simp [argsR] at h
  | n + 1, acc, p, q, x, hp, h => by
    rw [argsR] at h
    unfold intR at h
    cases hu : upR b 18446744073709551615 p with
    | error y =>
      obtain ⟨q1, x1⟩ := y
      rw [hu] at h
      simp only [Except.error.injEq, Prod.mk.injEq] at h
      obtain ⟨rfl, rfl⟩ := h
      have := upR_err hu
      exact ⟨by omega, this.2⟩
    | ok y =>
      obtain ⟨m, q1⟩ := y
      rw [hu] at h
      simp only at h
      exact argsR_err hz n _ q1 q x (upR_ate hz hp hu).2.2.2.1 h
theorem argR_err {b : List Nat} (hz : ∀ z ∈ b, z < 256) {p q : Nat} {x : Int} (hp : p ≤ b.length) (h : argR b p = .error (q, x)) : q ≤ b.length ∧ x ≠ 0 := by
  unfold argR at h
  cases hu : upR b 16 p with
  | error y =>
    obtain ⟨q1, x1⟩ := y
    rw [hu] at h
    simp only [Except.error.injEq, Prod.mk.injEq] at h
    obtain ⟨rfl, rfl⟩ := h
    have := upR_err hu
    exact ⟨by omega, this.2⟩
  | ok y =>
    obtain ⟨m, q1⟩ := y
    rw [hu] at h
    exact argsR_err hz m [] q1 q x (upR_ate hz hp hu).2.2.2.1 h
theorem keysR_err {b : List Nat} : ∀ (n : Nat) (acc : List K) (p q : Nat) (x : Int), p ≤ b.length → keysR b n acc p = .error (q, x) → q ≤ b.length ∧ x ≠ 0
  | 0, acc, p, q, x, hp, h => by simp [keysR] at h
  | n + 1, acc, p, q, x, hp, h => by
    rw [keysR] at h
    unfold keyR at h
    by_cases hl : p + 10 ≤ b.length
    · rw [if_pos hl] at h
      simp only at h
      split at h
      · simp only [Except.error.injEq, Prod.mk.injEq] at h
        obtain ⟨rfl, rfl⟩ := h
        exact ⟨hp, by omega⟩
      · exact keysR_err n _ (p + 10) q x hl h
    · rw [if_neg hl] at h
      simp only [Except.error.injEq, Prod.mk.injEq] at h
      obtain ⟨rfl, rfl⟩ := h
      exact ⟨hp, by omega⟩
theorem setR_err {b : List Nat} (hz : ∀ z ∈ b, z < 256) {p q : Nat} {x : Int} (hp : p ≤ b.length) (h : setR b 16 p = .error (q, x)) : q ≤ b.length ∧ x ≠ 0 := by
  unfold setR at h
  cases hu : upR b 16 p with
  | error y =>
    obtain ⟨q1, x1⟩ := y
    rw [hu] at h
    simp only [Except.error.injEq, Prod.mk.injEq] at h
    obtain ⟨rfl, rfl⟩ := h
    have := upR_err hu
    exact ⟨by omega, this.2⟩
  | ok y =>
    obtain ⟨m, q1⟩ := y
    rw [hu] at h
    exact keysR_err m [] q1 q x (upR_ate hz hp hu).2.2.2.1 h
theorem txR_err {b : List Nat} (hz : ∀ z ∈ b, z < 256) {p q : Nat} {x : Int} (hp : p ≤ b.length) (h : txR b p = .error (q, x)) : q ≤ b.length ∧ x ≠ 0 := by
  unfold txR at h
  cases h1 : upR b 63 p with
  | error y =>
    obtain ⟨q1, x1⟩ := y
    rw [h1] at h
    simp only [Except.error.injEq, Prod.mk.injEq] at h
    obtain ⟨rfl, rfl⟩ := h
    have := upR_err h1
    exact ⟨by omega, this.2⟩
  | ok y =>
    obtain ⟨n, p1⟩ := y
    rw [h1] at h; simp only at h
    have b1 := (upR_ate hz hp h1).2.2.2.1
    cases h2 : argR b p1 with
    | error y =>
      obtain ⟨q1, x1⟩ := y
      rw [h2] at h
      simp only [Except.error.injEq, Prod.mk.injEq] at h
      obtain ⟨rfl, rfl⟩ := h
      exact argR_err hz b1 h2
    | ok y =>
      obtain ⟨A, p2⟩ := y
      rw [h2] at h; simp only at h
      have b2 := (argR_ate hz b1 h2).2.2.2.1
      cases h3 : setR b 16 p2 with
      | error y =>
        obtain ⟨q1, x1⟩ := y
        rw [h3] at h
        simp only [Except.error.injEq, Prod.mk.injEq] at h
        obtain ⟨rfl, rfl⟩ := h
        exact setR_err hz b2 h3
      | ok y =>
        obtain ⟨R, p3⟩ := y
        rw [h3] at h; simp only at h
        have b3 := (setR_ate hz b2 h3).2.2.2.1
        cases h4 : setR b 16 p3 with
        | error y =>
          obtain ⟨q1, x1⟩ := y
          rw [h4] at h
          simp only [Except.error.injEq, Prod.mk.injEq] at h
          obtain ⟨rfl, rfl⟩ := h
          exact setR_err hz b3 h4
        | ok y => rw [h4] at h; cases h
theorem txsR_err {b : List Nat} (hz : ∀ z ∈ b, z < 256) : ∀ (n : Nat) (acc : List Tp) (p q : Nat) (x : Int), p ≤ b.length → txsR b n acc p = .error (q, x) → q ≤ b.length ∧ x ≠ 0
  | 0, acc, p, q, x, hp, h => by simp [txsR] at h
  | n + 1, acc, p, q, x, hp, h => by
    rw [txsR] at h
    cases hu : txR b p with
    | error y =>
      obtain ⟨q1, x1⟩ := y
      rw [hu] at h
      simp only [Except.error.injEq, Prod.mk.injEq] at h
      obtain ⟨rfl, rfl⟩ := h
      exact txR_err hz hp hu
    | ok y =>
      obtain ⟨m, q1⟩ := y
      rw [hu] at h
      simp only at h
      exact txsR_err hz n _ q1 q x (txR_ate hz hp hu).2.2.1 h
theorem decR_err {b : List Nat} (hz : ∀ z ∈ b, z < 256) {q : Nat} {x : Int} (h : decR b = .error (q, x)) : q ≤ b.length ∧ x ≠ 0 := by
  unfold decR at h
  cases hb : batR b 0 with
  | error y =>
    obtain ⟨q1, x1⟩ := y
    rw [hb] at h
    simp only [Except.error.injEq, Prod.mk.injEq] at h
    obtain ⟨rfl, rfl⟩ := h
    unfold batR at hb
    cases hu : upR b 64 0 with
    | error y =>
      obtain ⟨q2, x2⟩ := y
      rw [hu] at hb
      simp only [Except.error.injEq, Prod.mk.injEq] at hb
      obtain ⟨rfl, rfl⟩ := hb
      have := upR_err hu
      exact ⟨by omega, this.2⟩
    | ok y =>
      obtain ⟨m, q2⟩ := y
      rw [hu] at hb
      exact txsR_err hz m [] q2 _ _ (upR_ate hz (Nat.zero_le _) hu).2.2.2.1 hb
  | ok y =>
    obtain ⟨T, q1⟩ := y
    rw [hb] at h; simp only at h
    split at h
    · cases h
    · simp only [Except.error.injEq, Prod.mk.injEq] at h
      obtain ⟨rfl, rfl⟩ := h
      unfold batR at hb
      cases hu : upR b 64 0 with
      | error y => rw [hu] at hb; cases hb
      | ok y =>
        obtain ⟨m, q2⟩ := y
        rw [hu] at hb; simp only at hb
        obtain ⟨_, _, _, _, _, h6, _⟩ := txsR_ate hz m [] T q2 q1 (upR_ate hz (Nat.zero_le _) hu).2.2.2.1 hb
        exact ⟨h6, by omega⟩
end Go.Proofs.YtcaibgbhebldmaaGreat.Kk
