import Derived.Test.YtciogmenoighoaaJTxEnc
import Derived.Test.YtciogmenoighoaaRdMath
import Derived.Test.YtciogmenoighoaaQBelow
import Derived.Test.YtciogmenoighoaaTxDec0
/-
  A BATCH's BYTES, THERE.
-/
namespace Go.Proofs.Ytciogmenoighoaa.Kk
open Go.RowKit Go.Sort

theorem drop_at {b X R : List Nat} {p : Nat} (h : b.drop p = X ++ R) : b.drop (p + X.length) = R := by
  rw [← List.drop_drop, h]; simp
theorem upR_at {b : List Nat} {p n most : Nat} {R : List Nat} (hn : n < 18446744073709551616) (hm : n ≤ most) (h : b.drop p = uint 10 n ++ R) : upR b most p = .ok (n, p + (uint 10 n).length) := by
  unfold upR
  rw [rdUpto_at b p n most R hn hm h]
  rfl
theorem intR_at {b : List Nat} {p : Nat} {z : Int} {R : List Nat} (hz : In64 z) (h : b.drop p = uint 10 (fold z) ++ R) : intR b p = .ok (z, p + (uint 10 (fold z)).length) := by
  have hl := fold_lt z hz.1 hz.2
  unfold intR
  rw [upR_at hl (by omega) h]
  simp only [unfold_fold z hz.1 hz.2]
theorem argsR_at {b R : List Nat} : ∀ (A : List Int) (acc : List Int) (p : Nat), (∀ z ∈ A, In64 z) → b.drop p = argsT A ++ R → argsR b A.length acc p = .ok (acc ++ A, p + (argsT A).length)
  | [], acc, p, _, _ => by simp [argsR, argsT]
  | z :: A, acc, p, hz, h => by
    have e : argsT (z :: A) = uint 10 (fold z) ++ argsT A := by simp [argsT]
    rw [e, List.append_assoc] at h
    have h1 := intR_at (hz z (by simp)) h
    have h2 := argsR_at A (acc ++ [z]) _ (fun x hx => hz x (by simp [hx])) (drop_at h)
    rw [List.length_cons, argsR, h1]
    simp only
    rw [h2, e, List.append_assoc, List.length_append, Nat.add_assoc]
    rfl
theorem argR_at {b R : List Nat} {p : Nat} {A : List Int} (hz : ∀ z ∈ A, In64 z) (hl : A.length ≤ 16) (h : b.drop p = argsN A ++ R) : argR b p = .ok (A, p + (argsN A).length) := by
  have e : argsN A = uint 10 A.length ++ argsT A := rfl
  rw [e, List.append_assoc] at h
  unfold argR
  rw [upR_at (by omega) hl h]
  simp only
  rw [argsR_at A [] _ hz (drop_at h), e, List.length_append, Nat.add_assoc]
  rfl
theorem keysR_at {b R : List Nat} (hfk : ∀ k : K, isKey k = true → In64 k.2 → fromK (keyBytes k) = k) : ∀ (L acc : List K) (p : Nat), (∀ z ∈ L, KIn z) → Rise (acc ++ L) → b.drop p = L.flatMap keyBytes ++ R → keysR b L.length acc p = .ok (acc ++ L, p + L.length * 10)
  | [], acc, p, _, _, _ => by simp [keysR]
  | k :: L, acc, p, hz, hr, h => by
    rw [List.flatMap_cons, List.append_assoc] at h
    have hk : isKey k = true := hr.1 k (by simp)
    have hlen : p + 10 ≤ b.length := by
      have := congrArg List.length h
      simp only [List.length_drop, List.length_append, keyBytes_length] at this
      omega
    have h10 : (b.drop p).take 10 = keyBytes k := by rw [h, ← keyBytes_length k]; simp
    have hkr : keyR b p = .ok (k, p + 10) := by
      unfold keyR
      rw [if_pos hlen, h10, hfk k hk (hz k (by simp)).2]
    have hlt : ¬ (acc ≠ [] ∧ lt (kd acc (acc.length - 1)) k = false) := fun hc => by
      have hne : 0 < acc.length := List.length_pos_iff.2 hc.1
      have hp := (rise_append.1 hr).2.2 (kd acc (acc.length - 1)) (kd_mem (by omega)) k (by simp)
      rw [hp] at hc; exact absurd hc.2 (by simp)
    have hr2 : Rise ((acc ++ [k]) ++ L) := by rw [List.append_assoc]; exact hr
    have h2 := keysR_at hfk L (acc ++ [k]) (p + 10) (fun x hx => hz x (by simp [hx])) hr2 (by have := drop_at h; rwa [keyBytes_length] at this)
    rw [List.length_cons, keysR, hkr]
    simp only
    rw [if_neg hlt, h2, List.append_assoc]
    have : p + 10 + L.length * 10 = p + (L.length + 1) * 10 := by omega
    rw [this]
    rfl
theorem setR_at {b R : List Nat} (hfk : ∀ k : K, isKey k = true → In64 k.2 → fromK (keyBytes k) = k) {p : Nat} {L : List K} (hz : ∀ z ∈ L, KIn z) (hr : Rise L) (hl : L.length ≤ 16) (h : b.drop p = setN L ++ R) : setR b 16 p = .ok (L, p + (setN L).length) := by
  have e : setN L = uint 10 L.length ++ L.flatMap keyBytes := rfl
  rw [e, List.append_assoc] at h
  unfold setR
  rw [upR_at (by omega) hl h]
  simp only
  rw [keysR_at hfk L [] _ hz hr (drop_at h), e, List.length_append, keysT_length, Nat.add_assoc]
  rfl
structure TIn (t : Tp) : Prop where
  a : ∀ z ∈ t.args, In64 z
  r : ∀ k ∈ t.reads, KIn k
  w : ∀ k ∈ t.writes, KIn k
theorem txR_at {b R : List Nat} (hfk : ∀ k : K, isKey k = true → In64 k.2 → fromK (keyBytes k) = k) {p : Nat} {t : Tp} (hw : WF t) (hi : TIn t) (h : b.drop p = txN t ++ R) : txR b p = .ok (t, p + (txN t).length) := by
  have e : txN t = uint 10 t.proc.toNat ++ (argsN t.args ++ (setN t.reads ++ setN t.writes)) := by simp [txN]
  have p0 := hw.p0
  have p1 := hw.p1
  rw [e] at h
  simp only [List.append_assoc] at h
  have h1 := upR_at (most := 63) (by omega) (by omega) h
  have d1 := drop_at h
  have h2 := argR_at hi.a hw.a d1
  have d2 := drop_at d1
  have h3 := setR_at hfk hi.r hw.rr hw.r d2
  have d3 := drop_at d2
  have h4 := setR_at hfk hi.w hw.rw hw.w d3
  unfold txR
  rw [h1]; simp only
  rw [h2]; simp only
  rw [h3]; simp only
  rw [h4]; simp only
  rw [e]
  simp only [List.length_append, Nat.add_assoc]
  congr 2
  obtain ⟨proc, args, reads, writes⟩ := t
  simp only [Tp.mk.injEq, and_true] at p0 ⊢
  omega
theorem txsR_at {b R : List Nat} (hfk : ∀ k : K, isKey k = true → In64 k.2 → fromK (keyBytes k) = k) : ∀ (Ts acc : List Tp) (p : Nat), (∀ t ∈ Ts, WF t ∧ TIn t) → b.drop p = Ts.flatMap txN ++ R → txsR b Ts.length acc p = .ok (acc ++ Ts, p + (Ts.flatMap txN).length)
  | [], acc, p, _, _ => by simp [txsR]
  | t :: Ts, acc, p, hz, h => by
    rw [List.flatMap_cons, List.append_assoc] at h
    have h1 := txR_at hfk (hz t (by simp)).1 (hz t (by simp)).2 h
    have h2 := txsR_at hfk Ts (acc ++ [t]) _ (fun x hx => hz x (by simp [hx])) (drop_at h)
    rw [List.length_cons, txsR, h1]
    simp only
    rw [h2, List.append_assoc, List.flatMap_cons, List.length_append, Nat.add_assoc]
    rfl
/-- the reading of a batch's bytes, whatever follows -/
theorem batR_at {R : List Nat} (hfk : ∀ k : K, isKey k = true → In64 k.2 → fromK (keyBytes k) = k) {Ts : List Tp} (hl : Ts.length ≤ 64) (hz : ∀ t ∈ Ts, WF t ∧ TIn t) : batR (batN Ts ++ R) 0 = .ok (Ts, (batN Ts).length) := by
  have e : batN Ts = uint 10 Ts.length ++ Ts.flatMap txN := rfl
  have h : (batN Ts ++ R).drop 0 = uint 10 Ts.length ++ (Ts.flatMap txN ++ R) := by rw [e]; simp
  unfold batR
  rw [upR_at (by omega) hl h]
  simp only
  rw [txsR_at hfk Ts [] _ hz (drop_at h), e, List.length_append, Nat.zero_add]
  rfl
theorem decR_there (hfk : ∀ k : K, isKey k = true → In64 k.2 → fromK (keyBytes k) = k) {Ts : List Tp} (hl : Ts.length ≤ 64) (hz : ∀ t ∈ Ts, WF t ∧ TIn t) : decR (batN Ts) = .ok Ts := by
  have h := batR_at (R := []) hfk hl hz
  rw [List.append_nil] at h
  unfold decR
  rw [h]
  simp
theorem decR_more (hfk : ∀ k : K, isKey k = true → In64 k.2 → fromK (keyBytes k) = k) {Ts : List Tp} (hl : Ts.length ≤ 64) (hz : ∀ t ∈ Ts, WF t ∧ TIn t) {R : List Nat} (hR : R ≠ []) : decR (batN Ts ++ R) = .error ((batN Ts).length, 11) := by
  unfold decR
  rw [batR_at hfk hl hz]
  have : 0 < R.length := List.length_pos_iff.2 hR
  simp only
  rw [if_neg (by rw [List.length_append]; omega)]
end Go.Proofs.Ytciogmenoighoaa.Kk
/-
  A BATCH's BYTES, AND BACK.
-/
namespace Go.Proofs.Ytciogmenoighoaa.Kk
open Go.RowKit Go.Sort

theorem hfk (k : K) (h : isKey k = true) (h2 : In64 k.2) : fromK (keyBytes k) = k := (from_keyBytes h h2).1
theorem fold_unfold (n : Nat) : fold (unfold n) = n := by
  unfold fold unfold
  split
  · split <;> omega
  · split <;> omega
theorem unfold_in {n : Nat} (h : n < 18446744073709551616) : In64 (unfold n) := by
  unfold unfold In64
  split <;> omega
/-- a number that was read -/
theorem upR_ate {b : List Nat} (hz : ∀ z ∈ b, z < 256) {most p n q : Nat} (hp : p ≤ b.length) (h : upR b most p = .ok (n, q)) : b.drop p = uint 10 n ++ b.drop q ∧ n ≤ most ∧ q = p + (uint 10 n).length ∧ q ≤ b.length ∧ n < 18446744073709551616 := by
  have hle := upto_le b p most
  unfold upR at h
  split at h
  · rename_i h0
    simp only [Except.ok.injEq, Prod.mk.injEq] at h
    obtain ⟨rfl, rfl⟩ := h
    unfold rdUpto at h0 hle ⊢
    rw [if_neg (by simp)] at h0 hle ⊢
    split at h0
    · rename_i hs; exact absurd (by simpa using h0) hs
    · rename_i hs
      rw [if_neg hs] at hle ⊢
      split at h0
      · cases h0
      · rename_i hm
        rw [if_neg hm] at hle ⊢
        obtain ⟨n, k, e⟩ : ∃ n k, scan (b.drop p) = (n, k, 0) := by
          have h3 : (scan (b.drop p)).2.2 = 0 := by simpa using hs
          exact ⟨(scan (b.drop p)).1, (scan (b.drop p)).2.1, by rw [← h3]⟩
        obtain ⟨h1, _, h3, h4⟩ := scan_one _ n k (fun z h => hz z (List.mem_of_mem_drop h)) e
        rw [e] at hle ⊢
        simp only at hle ⊢
        have hk : (uint 10 n).length = k := by rw [← h4, List.length_take]; omega
        rw [List.length_drop] at h3
        refine ⟨?_, hle, by rw [hk], by omega, h1⟩
        rw [← List.drop_drop, ← h4, List.take_append_drop]
  · cases h
theorem argsR_ate {b : List Nat} (hz : ∀ z ∈ b, z < 256) : ∀ (n : Nat) (acc A : List Int) (p q : Nat), p ≤ b.length → argsR b n acc p = .ok (A, q) → ∃ A', A = acc ++ A' ∧ A'.length = n ∧ b.drop p = argsT A' ++ b.drop q ∧ q = p + (argsT A').length ∧ q ≤ b.length ∧ ∀ z ∈ A', In64 z
  | 0, acc, A, p, q, hp, h => by
    simp only [argsR, Except.ok.injEq, Prod.mk.injEq] at h
    obtain ⟨rfl, rfl⟩ := h
    exact ⟨[], by simp, rfl, by simp [argsT], by simp [argsT], hp, by simp⟩
  | n + 1, acc, A, p, q, hp, h => by
    rw [argsR] at h
    unfold intR at h
    cases hu : upR b 18446744073709551615 p with
    | error x => rw [hu] at h; cases h
    | ok x =>
      obtain ⟨m, q1⟩ := x
      rw [hu] at h
      simp only at h
      obtain ⟨h1, _, h3, h4, h5⟩ := upR_ate hz hp hu
      obtain ⟨A', e, hl, hd, hq, hq2, hin⟩ := argsR_ate hz n _ A q1 q h4 h
      have ea : argsT (unfold m :: A') = uint 10 m ++ argsT A' := by simp [argsT, fold_unfold]
      refine ⟨unfold m :: A', by rw [e]; simp, by simp [hl], by rw [ea, List.append_assoc, ← hd, h1], by rw [ea, hq, h3, List.length_append]; omega, hq2, fun z hz => ?_⟩
      rcases List.mem_cons.1 hz with rfl | hz
      · exact unfold_in h5
      · exact hin z hz
theorem argR_ate {b : List Nat} (hz : ∀ z ∈ b, z < 256) {p q : Nat} {A : List Int} (hp : p ≤ b.length) (h : argR b p = .ok (A, q)) : b.drop p = argsN A ++ b.drop q ∧ A.length ≤ 16 ∧ q = p + (argsN A).length ∧ q ≤ b.length ∧ ∀ z ∈ A, In64 z := by
  unfold argR at h
  cases hu : upR b 16 p with
  | error x => rw [hu] at h; cases h
  | ok x =>
    obtain ⟨n, q1⟩ := x
    rw [hu] at h
    simp only at h
    obtain ⟨h1, h2, h3, h4, h5⟩ := upR_ate hz hp hu
    obtain ⟨A', e, hl, hd, hq, hq2, hin⟩ := argsR_ate hz n [] A q1 q h4 h
    rw [List.nil_append] at e
    subst e
    subst hl
    have ea : argsN A = uint 10 A.length ++ argsT A := rfl
    exact ⟨by rw [ea, List.append_assoc, ← hd, h1], h2, by rw [ea, hq, h3, List.length_append]; omega, hq2, hin⟩
theorem keysR_ate {b : List Nat} (hz : ∀ z ∈ b, z < 256) : ∀ (n : Nat) (acc L : List K) (p q : Nat), p ≤ b.length → Rise acc → keysR b n acc p = .ok (L, q) → Rise L ∧ ∃ L', L = acc ++ L' ∧ L'.length = n ∧ b.drop p = L'.flatMap keyBytes ++ b.drop q ∧ q = p + L'.length * 10 ∧ q ≤ b.length ∧ ∀ z ∈ L', KIn z
  | 0, acc, A, p, q, hp, hr, h => by
    simp only [keysR, Except.ok.injEq, Prod.mk.injEq] at h
    obtain ⟨rfl, rfl⟩ := h
    exact ⟨hr, [], by simp, rfl, by simp, by simp, hp, by simp⟩
  | n + 1, acc, A, p, q, hp, hr, h => by
    rw [keysR] at h
    unfold keyR at h
    by_cases hl : p + 10 ≤ b.length
    · rw [if_pos hl] at h
      simp only at h
      have h10 : ((b.drop p).take 10).length = 10 := by simp; omega
      have hb : ∀ z ∈ (b.drop p).take 10, z < 256 := fun z h => hz z (List.mem_of_mem_drop (List.mem_of_mem_take h))
      obtain ⟨k1, k2, k3⟩ := keyBytes_from h10 hb
      have ek : fromK ((b.drop p).take 10) = fromB ((b.drop p).take 10) := by unfold fromK; rw [if_pos h10]
      rw [ek] at h
      generalize hk : fromB ((b.drop p).take 10) = k at *
      split at h
      · cases h
      · rename_i hlt
        have hr2 : Rise (acc ++ [k]) := by
          refine rise_snoc hr k1 (fun i y hi hy => ?_)
          have hne : acc ≠ [] := by intro e; rw [e] at hi; simp at hi
          have hkd : kd acc (acc.length - 1) = y := by
            have := kd_get (L := acc) (j := acc.length - 1) (by omega)
            rw [show acc.length - 1 = i by omega, hy] at this
            rw [show acc.length - 1 = i by omega]
            exact (Option.some.inj this).symm
          cases hc : lt y k with
          | true => rfl
          | false => exact absurd ⟨hne, by rw [hkd]; exact hc⟩ hlt
        obtain ⟨hR, L', e, hl', hd, hq, hq2, hin⟩ := keysR_ate hz n _ A (p + 10) q hl hr2 h
        refine ⟨hR, k :: L', by rw [e]; simp, by simp [hl'], ?_, by rw [hq, List.length_cons]; omega, hq2, fun z hz' => ?_⟩
        · rw [List.flatMap_cons, List.append_assoc, ← hd, k3, ← List.drop_drop, List.take_append_drop]
        · rcases List.mem_cons.1 hz' with rfl | hz'
          · refine ⟨?_, k2⟩
            rw [isKey_iff'] at k1
            unfold In64; omega
          · exact hin z hz'
    · rw [if_neg hl] at h; cases h
theorem setR_ate {b : List Nat} (hz : ∀ z ∈ b, z < 256) {p q : Nat} {L : List K} (hp : p ≤ b.length) (h : setR b 16 p = .ok (L, q)) : b.drop p = setN L ++ b.drop q ∧ L.length ≤ 16 ∧ q = p + (setN L).length ∧ q ≤ b.length ∧ Rise L ∧ ∀ z ∈ L, KIn z := by
  unfold setR at h
  cases hu : upR b 16 p with
  | error x => rw [hu] at h; cases h
  | ok x =>
    obtain ⟨n, q1⟩ := x
    rw [hu] at h
    simp only at h
    obtain ⟨h1, h2, h3, h4, h5⟩ := upR_ate hz hp hu
    obtain ⟨hR, A', e, hl, hd, hq, hq2, hin⟩ := keysR_ate hz n [] L q1 q h4 rise_nil h
    rw [List.nil_append] at e
    subst e
    subst hl
    have ea : setN L = uint 10 L.length ++ L.flatMap keyBytes := rfl
    exact ⟨by rw [ea, List.append_assoc, ← hd, h1], h2, by rw [ea, hq, h3, List.length_append, keysT_length]; omega, hq2, hR, hin⟩
theorem txR_ate {b : List Nat} (hz : ∀ z ∈ b, z < 256) {p q : Nat} {t : Tp} (hp : p ≤ b.length) (h : txR b p = .ok (t, q)) : b.drop p = txN t ++ b.drop q ∧ q = p + (txN t).length ∧ q ≤ b.length ∧ WF t ∧ TIn t := by
  unfold txR at h
  cases h1 : upR b 63 p with
  | error x => rw [h1] at h; cases h
  | ok x =>
    obtain ⟨n, p1⟩ := x
    rw [h1] at h; simp only at h
    obtain ⟨d1, l1, q1, b1, n1⟩ := upR_ate hz hp h1
    cases h2 : argR b p1 with
    | error x => rw [h2] at h; cases h
    | ok x =>
      obtain ⟨A, p2⟩ := x
      rw [h2] at h; simp only at h
      obtain ⟨d2, l2, q2, b2, i2⟩ := argR_ate hz b1 h2
      cases h3 : setR b 16 p2 with
      | error x => rw [h3] at h; cases h
      | ok x =>
        obtain ⟨R, p3⟩ := x
        rw [h3] at h; simp only at h
        obtain ⟨d3, l3, q3, b3, r3, i3⟩ := setR_ate hz b2 h3
        cases h4 : setR b 16 p3 with
        | error x => rw [h4] at h; cases h
        | ok x =>
          obtain ⟨V, p4⟩ := x
          rw [h4] at h; simp only [Except.ok.injEq, Prod.mk.injEq] at h
          obtain ⟨d4, l4, q4, b4, r4, i4⟩ := setR_ate hz b3 h4
          obtain ⟨rfl, rfl⟩ := h
          have e : txN ⟨(n : Int), A, R, V⟩ = uint 10 n ++ (argsN A ++ (setN R ++ setN V)) := by simp [txN]
          refine ⟨by rw [e]; simp only [List.append_assoc]; rw [← d4, ← d3, ← d2, ← d1], by rw [e, q4, q3, q2, q1]; simp only [List.length_append]; omega, b4, ⟨?_, ?_, l2, l3, l4, r3, r4⟩, ⟨i2, i3, i4⟩⟩
          · show (0 : Int) ≤ (n : Int); omega
          · show (n : Int) < 64; omega
theorem txsR_ate {b : List Nat} (hz : ∀ z ∈ b, z < 256) : ∀ (n : Nat) (acc T : List Tp) (p q : Nat), p ≤ b.length → txsR b n acc p = .ok (T, q) → ∃ T', T = acc ++ T' ∧ T'.length = n ∧ b.drop p = T'.flatMap txN ++ b.drop q ∧ q = p + (T'.flatMap txN).length ∧ q ≤ b.length ∧ ∀ t ∈ T', WF t ∧ TIn t
  | 0, acc, A, p, q, hp, h => by
    simp only [txsR, Except.ok.injEq, Prod.mk.injEq] at h
    obtain ⟨rfl, rfl⟩ := h
    exact ⟨[], by simp, rfl, by simp, by simp, hp, by simp⟩
  | n + 1, acc, A, p, q, hp, h => by
    rw [txsR] at h
    cases hu : txR b p with
    | error x => rw [hu] at h; cases h
    | ok x =>
      obtain ⟨t, q1⟩ := x
      rw [hu] at h
      simp only at h
      obtain ⟨h1, h3, h4, h5, h6⟩ := txR_ate hz hp hu
      obtain ⟨A', e, hl, hd, hq, hq2, hin⟩ := txsR_ate hz n _ A q1 q h4 h
      refine ⟨t :: A', by rw [e]; simp, by simp [hl], by rw [List.flatMap_cons, List.append_assoc, ← hd, h1], by rw [List.flatMap_cons, hq, h3, List.length_append]; omega, hq2, fun z hz => ?_⟩
      rcases List.mem_cons.1 hz with rfl | hz
      · exact ⟨h5, h6⟩
      · exact hin z hz
/-- what is read is what is written -/
theorem decR_back {b : List Nat} (hz : ∀ z ∈ b, z < 256) {T : List Tp} (h : decR b = .ok T) : batN T = b ∧ T.length ≤ 64 ∧ ∀ t ∈ T, WF t ∧ TIn t := by
  unfold decR at h
  cases hb : batR b 0 with
  | error x => rw [hb] at h; cases h
  | ok x =>
    obtain ⟨T1, q⟩ := x
    rw [hb] at h; simp only at h
    split at h
    · rename_i hq
      simp only [Except.ok.injEq] at h
      subst h
      unfold batR at hb
      cases hu : upR b 64 0 with
      | error x => rw [hu] at hb; cases hb
      | ok x =>
        obtain ⟨n, q1⟩ := x
        rw [hu] at hb; simp only at hb
        obtain ⟨h1, h2, h3, h4, h5⟩ := upR_ate hz (Nat.zero_le _) hu
        obtain ⟨A', e, hl, hd, _, _, hin⟩ := txsR_ate hz n [] T1 q1 q h4 hb
        rw [List.nil_append] at e
        subst e
        subst hl
        refine ⟨?_, h2, hin⟩
        unfold batN
        rw [hq, List.drop_length, List.append_nil] at hd
        rw [← hd, ← h1]; simp
    · cases h
end Go.Proofs.Ytciogmenoighoaa.Kk
/-
  WHERE BYTES ARE REFUSED.
-/
namespace Go.Proofs.Ytciogmenoighoaa.Kk
open Go.RowKit Go.Sort

theorem upR_err {b : List Nat} {most p q : Nat} {x : Int} (h : upR b most p = .error (q, x)) : q = p ∧ x ≠ 0 := by
  unfold upR at h
  split at h
  · cases h
  · rename_i h0
    simp only [Except.error.injEq, Prod.mk.injEq] at h
    obtain ⟨rfl, rfl⟩ := h
    refine ⟨?_, h0⟩
    unfold rdUpto at h0 ⊢
    rw [if_neg (by simp)] at h0 ⊢
    split
    · rfl
    · rename_i hs
      rw [if_neg hs] at h0
      split
      · rfl
      · rename_i hm; rw [if_neg hm] at h0; exact absurd rfl h0
theorem argsR_err {b : List Nat} (hz : ∀ z ∈ b, z < 256) : ∀ (n : Nat) (acc : List Int) (p q : Nat) (x : Int), p ≤ b.length → argsR b n acc p = .error (q, x) → q ≤ b.length ∧ x ≠ 0
  | 0, acc, p, q, x, hp, h => by simp [argsR] at h
  | n + 1, acc, p, q, x, hp, h => by
    rw [argsR] at h
    unfold intR at h
    cases hu : upR b 18446744073709551615 p with
    | error y =>
      obtain ⟨q1, x1⟩ := y
      rw [hu] at h
      simp only [Except.error.injEq, Prod.mk.injEq] at h
      obtain ⟨rfl, rfl⟩ := h
      have := upR_err hu
      exact ⟨by omega, this.2⟩
    | ok y =>
      obtain ⟨m, q1⟩ := y
      rw [hu] at h
      simp only at h
      exact argsR_err hz n _ q1 q x (upR_ate hz hp hu).2.2.2.1 h
theorem argR_err {b : List Nat} (hz : ∀ z ∈ b, z < 256) {p q : Nat} {x : Int} (hp : p ≤ b.length) (h : argR b p = .error (q, x)) : q ≤ b.length ∧ x ≠ 0 := by
  unfold argR at h
  cases hu : upR b 16 p with
  | error y =>
    obtain ⟨q1, x1⟩ := y
    rw [hu] at h
    simp only [Except.error.injEq, Prod.mk.injEq] at h
    obtain ⟨rfl, rfl⟩ := h
    have := upR_err hu
    exact ⟨by omega, this.2⟩
  | ok y =>
    obtain ⟨m, q1⟩ := y
    rw [hu] at h
    exact argsR_err hz m [] q1 q x (upR_ate hz hp hu).2.2.2.1 h
theorem keysR_err {b : List Nat} : ∀ (n : Nat) (acc : List K) (p q : Nat) (x : Int), p ≤ b.length → keysR b n acc p = .error (q, x) → q ≤ b.length ∧ x ≠ 0
  | 0, acc, p, q, x, hp, h => by simp [keysR] at h
  | n + 1, acc, p, q, x, hp, h => by
    rw [keysR] at h
    unfold keyR at h
    by_cases hl : p + 10 ≤ b.length
    · rw [if_pos hl] at h
      simp only at h
      split at h
      · simp only [Except.error.injEq, Prod.mk.injEq] at h
        obtain ⟨rfl, rfl⟩ := h
        exact ⟨hp, by omega⟩
      · exact keysR_err n _ (p + 10) q x hl h
    · rw [if_neg hl] at h
      simp only [Except.error.injEq, Prod.mk.injEq] at h
      obtain ⟨rfl, rfl⟩ := h
      exact ⟨hp, by omega⟩
theorem setR_err {b : List Nat} (hz : ∀ z ∈ b, z < 256) {p q : Nat} {x : Int} (hp : p ≤ b.length) (h : setR b 16 p = .error (q, x)) : q ≤ b.length ∧ x ≠ 0 := by
  unfold setR at h
  cases hu : upR b 16 p with
  | error y =>
    obtain ⟨q1, x1⟩ := y
    rw [hu] at h
    simp only [Except.error.injEq, Prod.mk.injEq] at h
    obtain ⟨rfl, rfl⟩ := h
    have := upR_err hu
    exact ⟨by omega, this.2⟩
  | ok y =>
    obtain ⟨m, q1⟩ := y
    rw [hu] at h
    exact keysR_err m [] q1 q x (upR_ate hz hp hu).2.2.2.1 h
theorem txR_err {b : List Nat} (hz : ∀ z ∈ b, z < 256) {p q : Nat} {x : Int} (hp : p ≤ b.length) (h : txR b p = .error (q, x)) : q ≤ b.length ∧ x ≠ 0 := by
  unfold txR at h
  cases h1 : upR b 63 p with
  | error y =>
    obtain ⟨q1, x1⟩ := y
    rw [h1] at h
    simp only [Except.error.injEq, Prod.mk.injEq] at h
    obtain ⟨rfl, rfl⟩ := h
    have := upR_err h1
    exact ⟨by omega, this.2⟩
  | ok y =>
    obtain ⟨n, p1⟩ := y
    rw [h1] at h; simp only at h
    have b1 := (upR_ate hz hp h1).2.2.2.1
    cases h2 : argR b p1 with
    | error y =>
      obtain ⟨q1, x1⟩ := y
      rw [h2] at h
      simp only [Except.error.injEq, Prod.mk.injEq] at h
      obtain ⟨rfl, rfl⟩ := h
      exact argR_err hz b1 h2
    | ok y =>
      obtain ⟨A, p2⟩ := y
      rw [h2] at h; simp only at h
      have b2 := (argR_ate hz b1 h2).2.2.2.1
      cases h3 : setR b 16 p2 with
      | error y =>
        obtain ⟨q1, x1⟩ := y
        rw [h3] at h
        simp only [Except.error.injEq, Prod.mk.injEq] at h
        obtain ⟨rfl, rfl⟩ := h
        exact setR_err hz b2 h3
      | ok y =>
        obtain ⟨R, p3⟩ := y
        rw [h3] at h; simp only at h
        have b3 := (setR_ate hz b2 h3).2.2.2.1
        cases h4 : setR b 16 p3 with
        | error y =>
          obtain ⟨q1, x1⟩ := y
          rw [h4] at h
          simp only [Except.error.injEq, Prod.mk.injEq] at h
          obtain ⟨rfl, rfl⟩ := h
          exact setR_err hz b3 h4
        | ok y => rw [h4] at h; cases h
theorem txsR_err {b : List Nat} (hz : ∀ z ∈ b, z < 256) : ∀ (n : Nat) (acc : List Tp) (p q : Nat) (x : Int), p ≤ b.length → txsR b n acc p = .error (q, x) → q ≤ b.length ∧ x ≠ 0
  | 0, acc, p, q, x, hp, h => by simp [txsR] at h
  | n + 1, acc, p, q, x, hp, h => by
    rw [txsR] at h
    cases hu : txR b p with
    | error y =>
      obtain ⟨q1, x1⟩ := y
      rw [hu] at h
      simp only [Except.error.injEq, Prod.mk.injEq] at h
      obtain ⟨rfl, rfl⟩ := h
      exact txR_err hz hp hu
    | ok y =>
      obtain ⟨m, q1⟩ := y
      rw [hu] at h
      simp only at h
      exact txsR_err hz n _ q1 q x (txR_ate hz hp hu).2.2.1 h
theorem decR_err {b : List Nat} (hz : ∀ z ∈ b, z < 256) {q : Nat} {x : Int} (h : decR b = .error (q, x)) : q ≤ b.length ∧ x ≠ 0 := by
  unfold decR at h
  cases hb : batR b 0 with
  | error y =>
    obtain ⟨q1, x1⟩ := y
    rw [hb] at h
    simp only [Except.error.injEq, Prod.mk.injEq] at h
    obtain ⟨rfl, rfl⟩ := h
    unfold batR at hb
    cases hu : upR b 64 0 with
    | error y =>
      obtain ⟨q2, x2⟩ := y
      rw [hu] at hb
      simp only [Except.error.injEq, Prod.mk.injEq] at hb
      obtain ⟨rfl, rfl⟩ := hb
      have := upR_err hu
      exact ⟨by omega, this.2⟩
    | ok y =>
      obtain ⟨m, q2⟩ := y
      rw [hu] at hb
      exact txsR_err hz m [] q2 _ _ (upR_ate hz (Nat.zero_le _) hu).2.2.2.1 hb
  | ok y =>
    obtain ⟨T, q1⟩ := y
    rw [hb] at h; simp only at h
    split at h
    · cases h
    · simp only [Except.error.injEq, Prod.mk.injEq] at h
      obtain ⟨rfl, rfl⟩ := h
      unfold batR at hb
      cases hu : upR b 64 0 with
      | error y => rw [hu] at hb; cases hb
      | ok y =>
        obtain ⟨m, q2⟩ := y
        rw [hu] at hb; simp only at hb
        obtain ⟨_, _, _, _, _, h6, _⟩ := txsR_ate hz m [] T q2 q1 (upR_ate hz (Nat.zero_le _) hu).2.2.2.1 hb
        exact ⟨h6, by omega⟩
end Go.Proofs.Ytciogmenoighoaa.Kk
/-
  WHAT FOLLOWS, AND WHAT LACKS.
-/
namespace Go.Proofs.Ytciogmenoighoaa.Kk
open Go.RowKit Go.Sort

theorem scanFrom_ext (R : List Nat) : ∀ (C : List Nat) (i acc : Nat), (scanFrom i acc C).2.2 ≠ 10 → scanFrom i acc (C ++ R) = scanFrom i acc C
  | [], i, acc, h => by simp [scanFrom] at h
  | c :: C, i, acc, h => by
    rw [List.cons_append, scanFrom, scanFrom]
    rw [scanFrom] at h
    split
    · rfl
    · rename_i h1
      rw [if_neg h1] at h
      split
      · rfl
      · rename_i h2
        rw [if_neg h2] at h
        exact scanFrom_ext R C _ _ h
theorem scan_ext (C R : List Nat) (h : (scan C).2.2 ≠ 10) : scan (C ++ R) = scan C := scanFrom_ext R C 0 0 h
theorem drop_ext (b T : List Nat) (p : Nat) (h : p ≤ b.length) : (b ++ T).drop p = b.drop p ++ T := by
  rw [List.drop_append, show p - b.length = 0 by omega, List.drop_zero]
/-- an answer, or a refusal that isn't the end, stays -/
def Ext {α : Type} (r r' : Rd α) : Prop := match r with | .ok x => r' = .ok x | .error y => y.2 ≠ 10 → r' = .error y
theorem upR_ext {b : List Nat} (t : List Nat) {most p : Nat} (hp : p ≤ b.length) : Ext (upR b most p) (upR (b ++ t) most p) := by
  unfold upR rdUpto
  simp only [ne_eq, not_true, if_false]
  rw [drop_ext b t p hp]
  by_cases h : (scan (b.drop p)).2.2 = 10
  · rw [if_pos (c := ¬ (scan (b.drop p)).2.2 = 0) (by omega)]
    simp only [h]
    intro hc; exact absurd rfl hc
  · rw [scan_ext _ t h]
    generalize (if ¬ (scan (b.drop p)).2.2 = 0 then (0, p, (((scan (b.drop p)).2.2 : Nat) : Int)) else if most < (scan (b.drop p)).1 then (0, p, 12) else ((scan (b.drop p)).1, p + (scan (b.drop p)).2.1, (0 : Int))) = z
    by_cases hz : z.2.2 = 0
    · rw [if_pos hz]; exact rfl
    · rw [if_neg hz]; intro _; rfl
theorem argsR_ext {b : List Nat} (hz : ∀ z ∈ b, z < 256) (t : List Nat) : ∀ (n : Nat) (acc : List Int) (p : Nat), p ≤ b.length → Ext (argsR b n acc p) (argsR (b ++ t) n acc p)
  | 0, acc, p, hp => rfl
  | n + 1, acc, p, hp => by
    rw [argsR, argsR]
    unfold intR
    have hx := upR_ext t (most := 18446744073709551615) hp
    cases hu : upR b 18446744073709551615 p with
    | error y => rw [hu] at hx; intro hy; rw [hx hy]
    | ok y =>
      obtain ⟨m, q⟩ := y
      rw [hu] at hx
      rw [show upR (b ++ t) 18446744073709551615 p = .ok (m, q) from hx]
      exact argsR_ext hz t n _ q (upR_ate hz hp hu).2.2.2.1
theorem argR_ext {b : List Nat} (hz : ∀ z ∈ b, z < 256) (t : List Nat) {p : Nat} (hp : p ≤ b.length) : Ext (argR b p) (argR (b ++ t) p) := by
  unfold argR
  have hx := upR_ext t (most := 16) hp
  cases hu : upR b 16 p with
  | error y => rw [hu] at hx; intro hy; rw [hx hy]
  | ok y =>
    obtain ⟨m, q⟩ := y
    rw [hu] at hx
    rw [show upR (b ++ t) 16 p = .ok (m, q) from hx]
    exact argsR_ext hz t m [] q (upR_ate hz hp hu).2.2.2.1
theorem keysR_ext {b : List Nat} (t : List Nat) : ∀ (n : Nat) (acc : List K) (p : Nat), p ≤ b.length → Ext (keysR b n acc p) (keysR (b ++ t) n acc p)
  | 0, acc, p, hp => rfl
  | n + 1, acc, p, hp => by
    rw [keysR, keysR]
    unfold keyR
    by_cases hl : p + 10 ≤ b.length
    · rw [if_pos hl, if_pos (by rw [List.length_append]; omega), drop_ext b t p hp, List.take_append_of_le_length (by rw [List.length_drop]; omega)]
      simp only
      generalize fromK ((b.drop p).take 10) = k
      by_cases hc : acc ≠ [] ∧ lt (kd acc (acc.length - 1)) k = false
      · rw [if_pos hc, if_pos hc]; intro _; rfl
      · rw [if_neg hc, if_neg hc]
        exact keysR_ext t n _ (p + 10) hl
    · rw [if_neg hl]
      intro hy; exact absurd rfl hy
theorem setR_ext {b : List Nat} (hz : ∀ z ∈ b, z < 256) (t : List Nat) {p : Nat} (hp : p ≤ b.length) : Ext (setR b 16 p) (setR (b ++ t) 16 p) := by
  unfold setR
  have hx := upR_ext t (most := 16) hp
  cases hu : upR b 16 p with
  | error y => rw [hu] at hx; intro hy; rw [hx hy]
  | ok y =>
    obtain ⟨m, q⟩ := y
    rw [hu] at hx
    rw [show upR (b ++ t) 16 p = .ok (m, q) from hx]
    exact keysR_ext t m [] q (upR_ate hz hp hu).2.2.2.1
theorem txR_ext {b : List Nat} (hz : ∀ z ∈ b, z < 256) (t : List Nat) {p : Nat} (hp : p ≤ b.length) : Ext (txR b p) (txR (b ++ t) p) := by
  unfold txR
  have hx := upR_ext t (most := 63) hp
  cases h1 : upR b 63 p with
  | error y => rw [h1] at hx; intro hy; rw [hx hy]
  | ok y =>
    obtain ⟨n, p1⟩ := y
    rw [h1] at hx
    rw [show upR (b ++ t) 63 p = .ok (n, p1) from hx]
    have b1 := (upR_ate hz hp h1).2.2.2.1
    have hx2 := argR_ext hz t b1
    simp only
    cases h2 : argR b p1 with
    | error y => rw [h2] at hx2; intro hy; rw [hx2 hy]
    | ok y =>
      obtain ⟨A, p2⟩ := y
      rw [h2] at hx2
      rw [show argR (b ++ t) p1 = .ok (A, p2) from hx2]
      have b2 := (argR_ate hz b1 h2).2.2.2.1
      have hx3 := setR_ext hz t b2
      simp only
      cases h3 : setR b 16 p2 with
      | error y => rw [h3] at hx3; intro hy; rw [hx3 hy]
      | ok y =>
        obtain ⟨R, p3⟩ := y
        rw [h3] at hx3
        rw [show setR (b ++ t) 16 p2 = .ok (R, p3) from hx3]
        have b3 := (setR_ate hz b2 h3).2.2.2.1
        have hx4 := setR_ext hz t b3
        simp only
        cases h4 : setR b 16 p3 with
        | error y => rw [h4] at hx4; intro hy; rw [hx4 hy]
        | ok y =>
          obtain ⟨V, p4⟩ := y
          rw [h4] at hx4
          rw [show setR (b ++ t) 16 p3 = .ok (V, p4) from hx4]
          exact rfl
theorem txsR_ext {b : List Nat} (hz : ∀ z ∈ b, z < 256) (t : List Nat) : ∀ (n : Nat) (acc : List Tp) (p : Nat), p ≤ b.length → Ext (txsR b n acc p) (txsR (b ++ t) n acc p)
  | 0, acc, p, hp => rfl
  | n + 1, acc, p, hp => by
    rw [txsR, txsR]
    have hx := txR_ext hz t hp
    cases hu : txR b p with
    | error y => rw [hu] at hx; intro hy; rw [hx hy]
    | ok y =>
      obtain ⟨m, q⟩ := y
      rw [hu] at hx
      rw [show txR (b ++ t) p = .ok (m, q) from hx]
      exact txsR_ext hz t n _ q (txR_ate hz hp hu).2.2.1
theorem batR_ext {b : List Nat} (hz : ∀ z ∈ b, z < 256) (t : List Nat) : Ext (batR b 0) (batR (b ++ t) 0) := by
  unfold batR
  have hx := upR_ext t (most := 64) (Nat.zero_le b.length)
  cases hu : upR b 64 0 with
  | error y => rw [hu] at hx; intro hy; rw [hx hy]
  | ok y =>
    obtain ⟨m, q⟩ := y
    rw [hu] at hx
    rw [show upR (b ++ t) 64 0 = .ok (m, q) from hx]
    exact txsR_ext hz t m [] q (upR_ate hz (Nat.zero_le _) hu).2.2.2.1
theorem batR_le {b : List Nat} (hz : ∀ z ∈ b, z < 256) {T : List Tp} {q : Nat} (hb : batR b 0 = .ok (T, q)) : q ≤ b.length := by
  unfold batR at hb
  cases hu : upR b 64 0 with
  | error y => rw [hu] at hb; cases hb
  | ok y =>
    obtain ⟨m, q2⟩ := y
    rw [hu] at hb; simp only at hb
    obtain ⟨_, _, _, _, _, h6, _⟩ := txsR_ate hz m [] T q2 q (upR_ate hz (Nat.zero_le _) hu).2.2.2.1 hb
    exact h6
/-- what follows a refusal helps nothing -/
theorem decR_ext {b : List Nat} (hz : ∀ z ∈ b, z < 256) (t : List Nat) {q : Nat} {x : Int} (h : decR b = .error (q, x)) (hx : x ≠ 10) : decR (b ++ t) = .error (q, x) := by
  unfold decR at h ⊢
  have he := batR_ext hz t
  cases hb : batR b 0 with
  | error y =>
    rw [hb] at h he
    simp only [Except.error.injEq] at h
    subst h
    rw [he hx]
  | ok y =>
    obtain ⟨T, p⟩ := y
    rw [hb] at h he
    rw [show batR (b ++ t) 0 = .ok (T, p) from he]
    have hp := batR_le hz hb
    simp only at h ⊢
    by_cases hc : p = b.length
    · rw [if_pos hc] at h; cases h
    · rw [if_neg hc] at h
      rw [if_neg (by rw [List.length_append]; omega)]
      exact h
/-- a batch's bytes that are cut end too early -/
theorem decR_cut {Ts : List Tp} (hl : Ts.length ≤ 64) (hz : ∀ t ∈ Ts, WF t ∧ TIn t) (hb : ∀ z ∈ batN Ts, z < 256) {n : Nat} (hn : n < (batN Ts).length) : ∃ q, decR ((batN Ts).take n) = .error (q, 10) ∧ q ≤ n := by
  have h0 := batR_at (R := []) hfk hl hz
  rw [List.append_nil] at h0
  have hz' : ∀ z ∈ (batN Ts).take n, z < 256 := fun z h => hb z (List.mem_of_mem_take h)
  have he := batR_ext hz' ((batN Ts).drop n)
  rw [List.take_append_drop, h0] at he
  have hlen : ((batN Ts).take n).length = n := by rw [List.length_take]; omega
  cases hr : batR ((batN Ts).take n) 0 with
  | error y =>
    obtain ⟨q, x⟩ := y
    rw [hr] at he
    have hx : x = 10 := by
      by_cases hx : x = 10
      · exact hx
      · have := he hx; cases this
    subst hx
    have hd : decR ((batN Ts).take n) = .error (q, 10) := by unfold decR; rw [hr]
    refine ⟨q, hd, ?_⟩
    have := (decR_err hz' hd).1
    omega
  | ok y =>
    obtain ⟨T, p⟩ := y
    rw [hr] at he
    have hp := batR_le hz' hr
    have : (Except.ok (Ts, (batN Ts).length) : Rd (List Tp)) = .ok (T, p) := he
    simp only [Except.ok.injEq, Prod.mk.injEq] at this
    omega
end Go.Proofs.Ytciogmenoighoaa.Kk
