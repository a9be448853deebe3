import Derived.Test.YtglodmmmcdjgcaaJ15
import Derived.Test.YtglodmmmcdjgcaaJ07
import Derived.Test.YtglodmmmcdjgcaaJ04
import Derived.Test.YtglodmmmcdjgcaaJ12
/-
  A BATCH's BYTES, THERE.
-/
namespace Go.Proofs.Ytglodmmmcdjgcaa.Kk
open Go.RowKit Go.Sort

theorem drop_at {b X R : List Nat} {p : Nat} (h : b.drop p = X ++ R) : b.drop (p + X.length) = R := by
  rw [← List.drop_drop, h]; simp
theorem upR_at {b : List Nat} {p n most : Nat} {R : List Nat} (hn : n < 18446744073709551616) (hm : n ≤ most) (h : b.drop p = uint 10 n ++ R) : upR b most p = .ok (n, p + (uint 10 n).length) := by
  unfold upR
  rw [rdUpto_at b p n most R hn hm h]
  rfl
theorem intR_at {b : List Nat} {p : Nat} {z : Int} {R : List Nat} (hz : In64 z) (h : b.drop p = uint 10 (fold z) ++ R) : intR b p = .ok (z, p + (uint 10 (fold z)).length) := by
  have hl := fold_lt z hz.1 hz.2
  unfold intR
  rw [upR_at hl (by omega) h]
  simp only [unfold_fold z hz.1 hz.2]
theorem argsR_at {b R : List Nat} : ∀ (A : List Int) (acc : List Int) (p : Nat), (∀ z ∈ A, In64 z) → b.drop p = argsT A ++ R → argsR b A.length acc p = .ok (acc ++ A, p + (argsT A).length)
  | [], acc, p, _, _ => by simp [argsR, argsT]
  | z :: A, acc, p, hz, h => by
    have e : argsT (z :: A) = uint 10 (fold z) ++ argsT A := by simp [argsT]
    rw [e, List.append_assoc] at h
    have h1 := intR_at (hz z (by simp)) h
    have h2 := argsR_at A (acc ++ [z]) _ (fun x hx => hz x (by simp [hx])) (drop_at h)
    rw [List.length_cons, argsR, h1]
    simp only
    rw [h2, e, List.append_assoc, List.length_append, Nat.add_assoc]
    rfl
theorem argR_at {b R : List Nat} {p : Nat} {A : List Int} (hz : ∀ z ∈ A, In64 z) (hl : A.length ≤ 16) (h : b.drop p = argsN A ++ R) : argR b p = .ok (A, p + (argsN A).length) := by
  have e : argsN A = uint 10 A.length ++ argsT A := rfl
  rw [e, List.append_assoc] at h
  unfold argR
  rw [upR_at (by omega) hl h]
  simp only
  rw [argsR_at A [] _ hz (drop_at h), e, List.length_append, Nat.add_assoc]
  rfl
theorem keysR_at {b R : List Nat} (hfk : ∀ k : K, isKey k = true → In64 k.2 → fromK (keyBytes k) = k) : ∀ (L acc : List K) (p : Nat), (∀ z ∈ L, KIn z) → Rise (acc ++ L) → b.drop p = L.flatMap keyBytes ++ R → keysR b L.length acc p = .ok (acc ++ L, p + L.length * 10)
  | [], acc, p, _, _, _ => by simp [keysR]
  | k :: L, acc, p, hz, hr, h => by
    rw [List.flatMap_cons, List.append_assoc] at h
    have hk : isKey k = true := hr.1 k (by simp)
    have hlen : p + 10 ≤ b.length := by
      have := congrArg List.length h
      simp only [List.length_drop, List.length_append, keyBytes_length] at this
      omega
    have h10 : (b.drop p).take 10 = keyBytes k := by rw [h, ← keyBytes_length k]; simp
    have hkr : keyR b p = .ok (k, p + 10) := by
      unfold keyR
      rw [if_pos hlen, h10, hfk k hk (hz k (by simp)).2]
    have hlt : ¬ (acc ≠ [] ∧ lt (kd acc (acc.length - 1)) k = false) := fun hc => by
      have hne : 0 < acc.length := List.length_pos_iff.2 hc.1
      have hp := (rise_append.1 hr).2.2 (kd acc (acc.length - 1)) (kd_mem (by omega)) k (by simp)
      rw [hp] at hc; exact absurd hc.2 (by simp)
    have hr2 : Rise ((acc ++ [k]) ++ L) := by rw [List.append_assoc]; exact hr
    have h2 := keysR_at hfk L (acc ++ [k]) (p + 10) (fun x hx => hz x (by simp [hx])) hr2 (by have := drop_at h; rwa [keyBytes_length] at this)
    rw [List.length_cons, keysR, hkr]
    simp only
    rw [if_neg hlt, h2, List.append_assoc]
    have : p + 10 + L.length * 10 = p + (L.length + 1) * 10 := by omega
    rw [this]
    rfl
theorem setR_at {b R : List Nat} (hfk : ∀ k : K, isKey k = true → In64 k.2 → fromK (keyBytes k) = k) {p : Nat} {L : List K} (hz : ∀ z ∈ L, KIn z) (hr : Rise L) (hl : L.length ≤ 16) (h : b.drop p = setN L ++ R) : setR b 16 p = .ok (L, p + (setN L).length) := by
  have e : setN L = uint 10 L.length ++ L.flatMap keyBytes := rfl
  rw [e, List.append_assoc] at h
  unfold setR
  rw [upR_at (by omega) hl h]
  simp only
  rw [keysR_at hfk L [] _ hz hr (drop_at h), e, List.length_append, keysT_length, Nat.add_assoc]
  rfl
structure TIn (t : Tp) : Prop where
  a : ∀ z ∈ t.args, In64 z
  r : ∀ k ∈ t.reads, KIn k
  w : ∀ k ∈ t.writes, KIn k
theorem txR_at {b R : List Nat} (hfk : ∀ k : K, isKey k = true → In64 k.2 → fromK (keyBytes k) = k) {p : Nat} {t : Tp} (hw : WF t) (hi : TIn t) (h : b.drop p = txN t ++ R) : txR b p = .ok (t, p + (txN t).length) := by
  have e : txN t = uint 10 t.proc.toNat ++ (argsN t.args ++ (setN t.reads ++ setN t.writes)) := by simp [txN]
  have p0 := hw.p0
  have p1 := hw.p1
  rw [e] at h
  simp only [List.append_assoc] at h
  have h1 := upR_at (most := 63) (by omega) (by omega) h
  have d1 := drop_at h
  have h2 := argR_at hi.a hw.a d1
  have d2 := drop_at d1
  have h3 := setR_at hfk hi.r hw.rr hw.r d2
  have d3 := drop_at d2
  have h4 := setR_at hfk hi.w hw.rw hw.w d3
  unfold txR
  rw [h1]; simp only
  rw [h2]; simp only
  rw [h3]; simp only
  rw [h4]; simp only
  rw [e]
  simp only [List.length_append, Nat.add_assoc]
  congr 2
  obtain ⟨proc, args, reads, writes⟩ := t
  simp only [Tp.mk.injEq, and_true] at p0 ⊢
  omega
theorem txsR_at {b R : List Nat} (hfk : ∀ k : K, isKey k = true → In64 k.2 → fromK (keyBytes k) = k) : ∀ (Ts acc : List Tp) (p : Nat), (∀ t ∈ Ts, WF t ∧ TIn t) → b.drop p = Ts.flatMap txN ++ R → txsR b Ts.length acc p = .ok (acc ++ Ts, p + (Ts.flatMap txN).length)
  | [], acc, p, _, _ => by simp [txsR]
  | t :: Ts, acc, p, hz, h => by
    rw [List.flatMap_cons, List.append_assoc] at h
    have h1 := txR_at hfk (hz t (by simp)).1 (hz t (by simp)).2 h
    have h2 := txsR_at hfk Ts (acc ++ [t]) _ (fun x hx => hz x (by simp [hx])) (drop_at h)
    rw [List.length_cons, txsR, h1]
    simp only
    rw [h2, List.append_assoc, List.flatMap_cons, List.length_append, Nat.add_assoc]
    rfl
/-- the reading of a batch's bytes, whatever follows -/
theorem batR_at {R : List Nat} (hfk : ∀ k : K, isKey k = true → In64 k.2 → fromK (keyBytes k) = k) {Ts : List Tp} (hl : Ts.length ≤ 64) (hz : ∀ t ∈ Ts, WF t ∧ TIn t) : batR (batN Ts ++ R) 0 = .ok (Ts, (batN Ts).length) := by
  have e : batN Ts = uint 10 Ts.length ++ Ts.flatMap txN := rfl
  have h : (batN Ts ++ R).drop 0 = uint 10 Ts.length ++ (Ts.flatMap txN ++ R) := by rw [e]; simp
  unfold batR
  rw [upR_at (by omega) hl h]
  simp only
  rw [txsR_at hfk Ts [] _ hz (drop_at h), e, List.length_append, Nat.zero_add]
  rfl
theorem decR_there (hfk : ∀ k : K, isKey k = true → In64 k.2 → fromK (keyBytes k) = k) {Ts : List Tp} (hl : Ts.length ≤ 64) (hz : ∀ t ∈ Ts, WF t ∧ TIn t) : decR (batN Ts) = .ok Ts := by
  have h := batR_at (R := []) hfk hl hz
  rw [List.append_nil] at h
  unfold decR
  rw [h]
  simp
theorem decR_more (hfk : ∀ k : K, isKey k = true → In64 k.2 → fromK (keyBytes k) = k) {Ts : List Tp} (hl : Ts.length ≤ 64) (hz : ∀ t ∈ Ts, WF t ∧ TIn t) {R : List Nat} (hR : R ≠ []) : decR (batN Ts ++ R) = .error ((batN Ts).length, 11) := by
  unfold decR
  rw [batR_at hfk hl hz]
  have : 0 < R.length := List.length_pos_iff.2 hR
  simp only
  rw [if_neg (by rw [List.length_append]; omega)]
end Go.Proofs.Ytglodmmmcdjgcaa.Kk
/-
  THE WALKS OF preluderef01.Uint, Fold, Int.
-/
namespace Go.Proofs.Ytglodmmmcdjgcaa
open Go.RowKit

/-- append at a slice of bytes of the call's own, as one equation -/
theorem run_append_bytes {w : World} (ty : TypeId) (base : Nat) (v : Value) (L : List Nat) (hown : OwnB w base v L)
    (ao : Option Addr) (m c : Nat) (zs : List Nat) (hm : m = zs.length) (hsrc : BytesAt w ao zs) (hnil : ao = none → c = 0) (hlen : L.length + zs.length ≤ 140737488355328) (hbase : base ≤ w.heap.size) :
    ∃ v' w', (Builtin.append_ #[50, 50] ty #[v, .slice ao m c]).run Try.prog w = .ok v' w' ∧ OwnB w' base v' (L ++ zs) ∧ w.grownBy w' v.ownBlock ∧ (v'.ownBlock = v.ownBlock ∨ v'.ownBlock = some w.heap.size) := by
  obtain ⟨i0, hi, hz0, hz1, hz2⟩ := info_parts info8
  subst hm
  have hzz : ∀ z ∈ L ++ zs, z < 256 := by
    intro z hz
    rcases List.mem_append.1 hz with h1 | h1
    · exact hown.1 z h1
    · exact hsrc.1 z h1
  cases ao with
  | none =>
    have h0 : zs = [] := by
      obtain ⟨_, h1 | ⟨b, off, h1, _⟩⟩ := hsrc
      · exact h1
      · cases h1
    subst h0
    obtain rfl := hnil rfl
    exact ⟨v, w, run_append_owned_none (P := Try.prog) (w := w) base 50 ty 5 i0 1 Try.underlying50 hi v L.length (L.map b8) hown.2, by simpa using hown, World.grownBy.refl _ _, .inl rfl⟩
  | some ad =>
    obtain ⟨v', w', hr, h2, h3, _, h5⟩ := run_append_own_at (P := Try.prog) w base 50 ty 5 i0 (.int .u8 0) 1 1 Try.underlying50 hi hz0 hz1 hz2 rfl (by decide) v L.length (L.map b8) hown.2 ad zs.length c (zs.map b8) (by simp)
      (by
        intro j u hu
        by_cases h0 : zs = []
        · subst h0; simp at hu
        · obtain ⟨ad', e, hc⟩ := bytes_src hsrc h0
          cases e
          exact hc j u hu) (oneCells zs) (by unfold maxLen; omega) (by omega) hbase
    exact ⟨v', w', hr, ⟨hzz, by rw [List.length_append, List.map_append]; exact h2⟩, h3, h5⟩
/-- at a step of a region that draws -/
theorem step_append_bytes {w : World} {ops : Array Oper} {o : Oper} {a : Act} {K : Act → World → Prop} {Q : Exit → Act → World → Prop} {E : Prop} (hgd : o.guard = none) (s x : Operand)
    (ho : o.op = .call { callee := .builtin .append, args := #[s, x], argTypes := #[50, 50] }) (base : Nat) (v : Value) (L : List Nat) (hs : a.eval s = v) (hown : OwnB w base v L)
    (ao : Option Addr) (m c : Nat) (zs : List Nat) (hx : a.eval x = .slice ao m c) (hm : m = zs.length) (hsrc : BytesAt w ao zs) (hnil : ao = none → c = 0) (hlen : L.length + zs.length ≤ 140737488355328) (hbase : base ≤ w.heap.size)
    (h : ∀ v' w', OwnB w' base v' (L ++ zs) → w.grownBy w' v.ownBlock → (v'.ownBlock = v.ownBlock ∨ v'.ownBlock = some w.heap.size) → K (a.put o.dst v') w') :
    if Region.wanted o (yielded ops a.tmps) = true then Oper.wp Try.prog o a w K Q else E := by
  have hw : Region.wanted o (yielded ops a.tmps) = true := by simp [Region.wanted, hgd]
  rw [if_pos hw]
  obtain ⟨v', w', hr, h2, h3, h4⟩ := run_append_bytes o.type base v L hown ao m c zs hm hsrc hnil hlen hbase
  unfold Oper.wp execOp
  simp only [ho, resolve, invoke, builtin, Sem.run_bind, Sem.run_pure, Result.andThen_ok, List.map_toArray, List.map_cons, List.map_nil, hs, hx, hr]
  exact h v' w' h2 h3 h4

theorem below_grown {w w1 : World} {row : Option Nat} {B : Nat} (h : w.grownBy w1 row) (hr : ∀ k, row = some k → B ≤ k) (hB : B ≤ w.heap.size) : Below B w w1 :=
  ⟨h.os, h.tape, h.output, h.size, fun k hk => h.block k (by omega) (fun e => by have := hr k e.symm; omega)⟩



end Go.Proofs.Ytglodmmmcdjgcaa
/-
  THE WALK OF THE DOCUMENT's ten.
-/
namespace Go.Proofs.Ytglodmmmcdjgcaa.Kk
open Go.RowKit Go.Sort
end Go.Proofs.Ytglodmmmcdjgcaa.Kk
