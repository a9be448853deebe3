/-
  THE WALKS OF preluderef01.Uint, Fold, Int.
-/
import Derived.Test.YtjmlogljfboleaaWriter
namespace Go.Proofs.Ytjmlogljfboleaa
open Go.RowKit

/-- append at a slice of bytes of the call's own, as one equation -/
theorem run_append_bytes {w : World} (ty : TypeId) (base : Nat) (v : Value) (L : List Nat) (hown : OwnB w base v L)
    (ao : Option Addr) (m c : Nat) (zs : List Nat) (hm : m = zs.length) (hsrc : BytesAt w ao zs) (hnil : ao = none → c = 0) (hlen : L.length + zs.length ≤ 140737488355328) (hbase : base ≤ w.heap.size) :
    ∃ v' w', (Builtin.append_ #[41, 41] ty #[v, .slice ao m c]).run Try.prog w = .ok v' w' ∧ OwnB w' base v' (L ++ zs) ∧ w.grownBy w' v.ownBlock ∧ (v'.ownBlock = v.ownBlock ∨ v'.ownBlock = some w.heap.size) := by
  obtain ⟨i0, hi, hz0, hz1, hz2⟩ := info_parts info8
  subst hm
  have hzz : ∀ z ∈ L ++ zs, z < 256 := by
    intro z hz
    rcases List.mem_append.1 hz with h1 | h1
    · exact hown.1 z h1
    · exact hsrc.1 z h1
  cases ao with
  | none =>
    have h0 : zs = [] := by
      obtain ⟨_, h1 | ⟨b, off, h1, _⟩⟩ := hsrc
      · exact h1
      · cases h1
    subst h0
    obtain rfl := hnil rfl
    exact ⟨v, w, run_append_owned_none (P := Try.prog) (w := w) base 41 ty 5 i0 1 Try.underlying41 hi v L.length (L.map b8) hown.2, by simpa using hown, World.grownBy.refl _ _, .inl rfl⟩
  | some ad =>
    obtain ⟨v', w', hr, h2, h3, _, h5⟩ := run_append_own_at (P := Try.prog) w base 41 ty 5 i0 (.int .u8 0) 1 1 Try.underlying41 hi hz0 hz1 hz2 rfl (by decide) v L.length (L.map b8) hown.2 ad zs.length c (zs.map b8) (by simp)
      (by
        intro j u hu
        by_cases h0 : zs = []
        · subst h0; simp at hu
        · obtain ⟨ad', e, hc⟩ := bytes_src hsrc h0
          cases e
          exact hc j u hu) (oneCells zs) (by unfold maxLen; omega) (by omega) hbase
    exact ⟨v', w', hr, ⟨hzz, by rw [List.length_append, List.map_append]; exact h2⟩, h3, h5⟩
/-- at a step of a region that draws -/
theorem step_append_bytes {w : World} {ops : Array Oper} {o : Oper} {a : Act} {K : Act → World → Prop} {Q : Exit → Act → World → Prop} {E : Prop} (hgd : o.guard = none) (s x : Operand)
    (ho : o.op = .call { callee := .builtin .append, args := #[s, x], argTypes := #[41, 41] }) (base : Nat) (v : Value) (L : List Nat) (hs : a.eval s = v) (hown : OwnB w base v L)
    (ao : Option Addr) (m c : Nat) (zs : List Nat) (hx : a.eval x = .slice ao m c) (hm : m = zs.length) (hsrc : BytesAt w ao zs) (hnil : ao = none → c = 0) (hlen : L.length + zs.length ≤ 140737488355328) (hbase : base ≤ w.heap.size)
    (h : ∀ v' w', OwnB w' base v' (L ++ zs) → w.grownBy w' v.ownBlock → (v'.ownBlock = v.ownBlock ∨ v'.ownBlock = some w.heap.size) → K (a.put o.dst v') w') :
    if Region.wanted o (yielded ops a.tmps) = true then Oper.wp Try.prog o a w K Q else E := by
  have hw : Region.wanted o (yielded ops a.tmps) = true := by simp [Region.wanted, hgd]
  rw [if_pos hw]
  obtain ⟨v', w', hr, h2, h3, h4⟩ := run_append_bytes o.type base v L hown ao m c zs hm hsrc hnil hlen hbase
  unfold Oper.wp execOp
  simp only [ho, resolve, invoke, builtin, Sem.run_bind, Sem.run_pure, Result.andThen_ok, List.map_toArray, List.map_cons, List.map_nil, hs, hx, hr]
  exact h v' w' h2 h3 h4

theorem below_grown {w w1 : World} {row : Option Nat} {B : Nat} (h : w.grownBy w1 row) (hr : ∀ k, row = some k → B ≤ k) (hB : B ≤ w.heap.size) : Below B w w1 :=
  ⟨h.os, h.tape, h.output, h.size, fun k hk => h.block k (by omega) (fun e => by have := hr k e.symm; omega)⟩

set_option maxHeartbeats 400000 in
theorem refUint_any (w : World) (n : Nat) (hn : n < 18446744073709551616) :
    Calls Try.prog 47 #[.int .u64 (n : Int)] w fun e w' => ∃ v, e = .returned v ∧ OwnB w' w.heap.size v (uint 10 n) ∧ Below w.heap.size w w' := by
  go_enter Try.func47, Try.ntmps47
  go_wp2
  go_loopw [0, 3] (fun x y wr => ∃ (m f : Nat) (M : List Nat) (v1 : Value), x = .int .u64 (m : Int) ∧ y = v1 ∧ m < 2 ^ (7 * f + 1) ∧ f ≤ 9 ∧ M.length + f + 1 ≤ 11 ∧ Hid (M ++ uint (f + 1) m = uint 10 n) ∧ Hid (OwnB wr w.heap.size v1 M) ∧ Hid (Below w.heap.size w wr)) (fun x _ _ => (intOf x).toNat)
  case atStart => exact ⟨n, 9, [], _, rfl, rfl, by omega, by omega, by simp, by simp [Hid], OwnB.nil _ _, Below.refl _ _⟩
  case round =>
    obtain ⟨m, f, M, v1, rfl, rfl, hm, hf, hML, hM, hW, hB⟩ := hrel
    have hml : m < 18446744073709551616 := by
      have : 2 ^ (7 * f + 1) ≤ 2 ^ 64 := Nat.pow_le_pow_right (by omega) (by omega)
      omega
    by_cases hge : 128 ≤ m
    · have hge' : (128 : Int) ≤ (m : Int) := by omega
      obtain ⟨f', rfl⟩ : ∃ f', f = f' + 1 := by
        cases f with
        | zero => simp at hm; omega
        | succ f => exact ⟨f, rfl⟩
      have HM : Hid ((M ++ [m % 128 + 128]) ++ uint (f' + 1) (m / 128) = uint 10 n) := by
        rw [Hid, ← hM.out, List.append_assoc]
        congr 1
        rw [uint_more _ _ hge]; rfl
      have hm7 : m / 128 < 2 ^ (7 * f' + 1) := by
        have e : 2 ^ (7 * (f' + 1) + 1) = 128 * 2 ^ (7 * f' + 1) := by rw [show 7 * (f' + 1) + 1 = 7 + (7 * f' + 1) by omega, Nat.pow_add]
        omega
      obtain ⟨z, hz⟩ : ∃ z : Nat, (m : Int) % 128 + 128 = (z : Int) := ⟨m % 128 + 128, by omega⟩
      have hz256 : z < 256 := by omega
      have HZ : Hid (z = m % 128 + 128) := by rw [Hid]; omega
      go_wp2_with (at_builtin; refine wpList_append_bytes rfl _ _ rfl w.heap.size _ M rfl (hW.out.alloc _) _ _ _ [z] rfl rfl (byte_src _ _ z rfl hz256) (by simp) (by simp; omega) (by have := hB.out.size; simp; omega) ?_; intro v' w1 hown1 hgrow1)
      have HW1 : Hid (OwnB w1 w.heap.size v' (M ++ [m % 128 + 128])) := by rw [← HZ.out]; exact hown1
      have HB1 : Hid (Below w.heap.size w w1) := hB.out.trans (below_grown (grown_alloc w1 hgrow1) (fun k hk => (hW.out.2.lt k hk).1) hB.out.size)
      go_roundw
      case rel => exact ⟨m / 128, f', M ++ [m % 128 + 128], v', by go_num, rfl, hm7, by omega, by simp; omega, HM, HW1, HB1⟩
      case measure => simp [intOf]; omega
    · have hge' : ¬ (128 : Int) ≤ (m : Int) := by omega
      have HM : Hid (M ++ [m] = uint 10 n) := by
        rw [Hid, ← hM.out, uint_last _ _ hge]
      go_wp2_with (at_builtin; refine wpList_append_bytes rfl _ _ rfl w.heap.size _ M rfl (hW.out.alloc _) _ _ _ [m] rfl rfl (byte_src _ _ m rfl (by omega)) (by simp) (by simp; omega) (by have := hB.out.size; simp; omega) ?_; intro v' w1 hown1 hgrow1)
      have HB1 : Hid (Below w.heap.size w w1) := hB.out.trans (below_grown (grown_alloc w1 hgrow1) (fun k hk => (hW.out.2.lt k hk).1) hB.out.size)
      go_ret
      exact ⟨v', rfl, by rw [← HM.out]; exact hown1, HB1.out⟩

theorem refFold_any (w : World) (n : Int) (h0 : -9223372036854775808 ≤ n) (h1 : n ≤ 9223372036854775807) :
    Calls Try.prog 66 #[.int .i64 n] w fun e w' => e = .returned (.int .u64 ((fold n : Nat) : Int)) ∧ w' = w := by
  go_enter Try.func66, Try.ntmps66
  by_cases hn : n < 0
  · have hn' : ¬ 0 ≤ n := by omega
    have hf : 2 * (-1 - n) + 1 = ((fold n : Nat) : Int) := by unfold fold; rw [if_pos hn]; omega
    go_wp2
    go_ret
    exact ⟨rfl, rfl⟩
  · have hn' : 0 ≤ n := by omega
    have hf : 2 * n = ((fold n : Nat) : Int) := by unfold fold; rw [if_neg hn]; omega
    go_wp2
    go_ret
    exact ⟨rfl, rfl⟩

theorem refInt_any (w : World) (n : Int) (h0 : -9223372036854775808 ≤ n) (h1 : n ≤ 9223372036854775807) :
    Calls Try.prog 48 #[.int .i64 n] w fun e w' => ∃ v, e = .returned v ∧ OwnB w' w.heap.size v (uint 10 (fold n)) ∧ Below w.heap.size w w' := by
  go_enter Try.func48, Try.ntmps48
  go_wp2_with fail
  refine (refFold_any w n h0 h1).mono ?_
  rintro e w1 ⟨rfl, rfl⟩
  go_wp2_with fail
  refine (refUint_any w1 (fold n) (fold_lt n h0 h1)).mono ?_
  rintro e w2 ⟨v, rfl, hown, hbel⟩
  go_wp2
  go_ret
  exact ⟨v, rfl, hown, hbel⟩
end Go.Proofs.Ytjmlogljfboleaa
