import Derived.Test.YtkjmeknaedapjaaDoorJ15
import Derived.Deep.QuietTactic
import Derived.BigQuiet
import Derived.Test.YtkjmeknaedapjaaDoorJ07
import Derived.Test.YtkjmeknaedapjaaDoorJ10
/-
  THE WALK OF THE DOCUMENT's Longest.
-/
namespace Go.Proofs.YtkjmeknaedapjaaDoor
open Go.RowKit Go.Sort

theorem below_drewK (B : Nat) (W : World) (q : Nat) : Below B W (W.drewN q) := ⟨rfl, rfl, rfl, Nat.le_refl _, fun _ _ => rfl⟩


end Go.Proofs.YtkjmeknaedapjaaDoor
/-
  THE WALKS OF THE DOCUMENT'S Name, Check.
-/
namespace Go.Proofs.YtkjmeknaedapjaaDoor
open Go.RowKit Go.Sort

theorem let_iff (c : Int) : letB c = true ↔ (97 ≤ c ∧ c ≤ 122) ∨ (65 ≤ c ∧ c ≤ 90) := by simp [letB]
theorem dig_iff (c : Int) : digB c = true ↔ 48 ≤ c ∧ c ≤ 57 := by simp [digB]
set_option maxHeartbeats 2000000 in
theorem refName_any (w : World) (s : ByteArray) (hs : s.size ≤ 281474976710656) : Calls Tryd.prog 59 #[.string s] w fun e w' => e = .returned (.bool (nameB s)) ∧ w' = w := by
  by_cases h1 : s.size < 1
  · have HG : Hid (nameB s = false) := by show nameB s = false; unfold nameB; rw [decide_eq_false (by omega), Bool.false_and, Bool.false_and]
    have h1' : (s.size : Int) < 1 := by omega
    go_enter Tryd.func59, Tryd.ntmps59
    go_wp2
    go_ret
    exact ⟨by rw [HG.out]; rfl, rfl⟩
  · have h1' : ¬ (s.size : Int) < 1 := by omega
    by_cases h2 : 31 < s.size
    · have HG : Hid (nameB s = false) := by show nameB s = false; unfold nameB; rw [decide_eq_false (show ¬ s.size ≤ 31 by omega), Bool.and_false, Bool.false_and]
      have h2' : (31 : Int) < (s.size : Int) := by omega
      go_enter Tryd.func59, Tryd.ntmps59
      go_wp2
      go_ret
      exact ⟨by rw [HG.out]; rfl, rfl⟩
    · have h2' : ¬ (31 : Int) < (s.size : Int) := by omega
      have hN : Hid (nameB s = goodN s s.size) := by show nameB s = _; unfold nameB; rw [decide_eq_true (show 0 < s.size by omega), decide_eq_true (show s.size ≤ 31 by omega)]; rfl
      go_enter Tryd.func59, Tryd.ntmps59
      go_wp2
      go_loop [3] (fun x => ∃ k : Nat, k ≤ s.size ∧ x = .int .i64 (k : Int) ∧ Hid (goodN s k = true)) (fun x => s.size - (intOf x).toNat)
      case atStart => exact ⟨0, Nat.zero_le _, rfl, rfl⟩
      case round =>
        obtain ⟨k, hk, rfl, HA⟩ := hrel
        by_cases hlt : k < s.size
        · have HC := chs_at s k hlt
          have HF : Hid (chB k (chs s k) = false → nameB s = false) := fun h => by rw [hN.out, goodN_false h hlt]
          have HT : Hid (chB k (chs s k) = true → goodN s (k + 1) = true) := fun h => by unfold goodN; rw [HA.out, h]; rfl
          generalize chs s k = c at *
          have hcase : (97 ≤ c ∧ c ≤ 122) ∨ (¬ 97 ≤ c ∧ 65 ≤ c ∧ c ≤ 90) ∨ (97 ≤ c ∧ ¬ c ≤ 122 ∧ 65 ≤ c ∧ ¬ c ≤ 90) ∨ (¬ 97 ≤ c ∧ 65 ≤ c ∧ ¬ c ≤ 90) ∨ (¬ 97 ≤ c ∧ ¬ 65 ≤ c) := by omega
          rcases hcase with ⟨c1, c2⟩ | ⟨c1, c2, c3⟩ | hno
          · have HG : Hid (goodN s (k + 1) = true) := HT.out (by unfold chB; rw [(let_iff c).2 (.inl ⟨c1, c2⟩)]; rfl)
            go_wp2
            go_round
            case rel => exact ⟨k + 1, by omega, by go_num, HG⟩
            case measure => simp [intOf]; omega
          · have HG : Hid (goodN s (k + 1) = true) := HT.out (by unfold chB; rw [(let_iff c).2 (.inr ⟨c2, c3⟩)]; rfl)
            go_wp2
            go_round
            case rel => exact ⟨k + 1, by omega, by go_num, HG⟩
            case measure => simp [intOf]; omega
          · have hl : letB c = false := by
              cases e : letB c with
              | false => rfl
              | true => rw [let_iff] at e; omega
            by_cases h0 : k = 0
            · have HG : Hid (nameB s = false) := HF.out (by unfold chB; rw [hl, h0]; rfl)
              have h0' : ((k : Int) == 0) = true := by rw [h0]; rfl
              clear h0 hl
              rcases hno with ⟨c1, c2, c3, c4⟩ | ⟨c1, c2, c3⟩ | ⟨c1, c2⟩ <;>
              (go_wp2
               go_ret
               exact ⟨by rw [HG.out]; rfl, rfl⟩)
            · have h0' : ((k : Int) == 0) = false := by simp; omega
              by_cases h95 : c = 95
              · have HG : Hid (goodN s (k + 1) = true) := HT.out (by unfold chB; rw [hl]; simp [h0, h95])
                have h95' : (c != 95) = false := by simp [h95]
                clear h0 hl h95
                rcases hno with ⟨c1, c2, c3, c4⟩ | ⟨c1, c2, c3⟩ | ⟨c1, c2⟩ <;>
                (go_wp2
                 go_round
                 case rel => exact ⟨k + 1, by omega, by go_num, HG⟩
                 case measure => simp [intOf]; omega)
              · have h95' : (c != 95) = true := by simpa using h95
                by_cases h48 : c < 48
                · have HG : Hid (nameB s = false) := HF.out (by
                    have hd : digB c = false := by
                      cases e : digB c with
                      | false => rfl
                      | true => rw [dig_iff] at e; omega
                    unfold chB; rw [hl, hd]; simp [h95])
                  clear h0 hl h95
                  rcases hno with ⟨c1, c2, c3, c4⟩ | ⟨c1, c2, c3⟩ | ⟨c1, c2⟩ <;>
                  (go_wp2
                   go_ret
                   exact ⟨by rw [HG.out]; rfl, rfl⟩)
                · by_cases h57 : 57 < c
                  · have HG : Hid (nameB s = false) := HF.out (by
                      have hd : digB c = false := by
                        cases e : digB c with
                        | false => rfl
                        | true => rw [dig_iff] at e; omega
                      unfold chB; rw [hl, hd]; simp [h95])
                    clear h0 hl h95
                    rcases hno with ⟨c1, c2, c3, c4⟩ | ⟨c1, c2, c3⟩ | ⟨c1, c2⟩ <;>
                    (go_wp2
                     go_ret
                     exact ⟨by rw [HG.out]; rfl, rfl⟩)
                  · have HG : Hid (goodN s (k + 1) = true) := HT.out (by unfold chB; rw [hl, (dig_iff c).2 (by omega)]; simp [h0])
                    clear h0 hl h95
                    rcases hno with ⟨c1, c2, c3, c4⟩ | ⟨c1, c2, c3⟩ | ⟨c1, c2⟩ <;>
                    (go_wp2
                     go_round
                     case rel => exact ⟨k + 1, by omega, by go_num, HG⟩
                     case measure => simp [intOf]; omega)
        · obtain rfl : k = s.size := by omega
          have HG : Hid (nameB s = true) := by rw [hN.out, HA.out]; rfl
          go_wp2
          go_ret
          exact ⟨by rw [HG.out]; rfl, rfl⟩

set_option maxRecDepth 100000 in
set_option maxHeartbeats 2000000 in
theorem refCheck_any (w : World) (ao : Option Addr) (n cap : Nat) (Ps : List Pr) (h : LibAt w ao Ps) (hn : n = Ps.length) (hm : n ≤ 140737488351232) :
    Calls Tryd.prog 31 #[.slice ao n cap] w fun e w' => e = .returned (.tuple #[.int .i64 ((checkN Ps).1 : Int), .int .i64 (checkN Ps).2]) ∧ Below w.heap.size w w' := by
  have H : Hid (LibAt w ao Ps) := h
  have HN : Hid (n = Ps.length) := hn
  clear h hn
  by_cases h64 : 64 < n
  · have HV : Hid (checkN Ps = (0, 36)) := by show checkN Ps = (0, 36); unfold checkN; rw [if_pos (by have := HN.out; omega)]
    go_enter Tryd.func31, Tryd.ntmps31
    go_wp2
    go_ret2
    exact ⟨by rw [HV.out]; rfl, Below.refl _ _⟩
  · go_enter Tryd.func31, Tryd.ntmps31
    go_wp2
    go_loopw [4] (fun x wr => ∃ k : Nat, k ≤ n ∧ x = .int .i64 (k : Int) ∧ Hid (∀ i, i < k → chkOne Ps i = 0) ∧ Hid (Below w.heap.size w wr)) (fun x _ => n - (intOf x).toNat)
    case atStart => exact ⟨0, Nat.zero_le _, rfl, fun i hi => absurd hi (Nat.not_lt_zero i), Below.refl _ _⟩
    case round =>
      obtain ⟨k, hk, rfl, HA, HB⟩ := hrel
      by_cases hlt : k < n
      · have hlt' : k < Ps.length := by have := HN.out; omega
        obtain ⟨b, off, e, c0, c1, c2, c3, c4, c5⟩ := (H.out.at_.kept HB.out).get k hlt'
        have HS : Hid (chkOne Ps k ≠ 0 → checkN Ps = (k, chkOne Ps k)) := fun h => checkN_stop (by have := HN.out; omega) HA.out h hlt'
        have HF : Hid ((nameB (pd Ps k).name = false ∨ hasB (Ps.take k) (pd Ps k).name = true) → chkOne Ps k = 35) := chkOne_bad
        have HT : Hid (nameB (pd Ps k).name = true → hasB (Ps.take k) (pd Ps k).name = false → chkOne Ps k = verifyN (pd Ps k).p (pd Ps k).L) := chkOne_good
        have HO : Hid (PrOK wr (pd Ps k)) := (H.out.ok _ (pd_mem hlt')).kept HB.out
        have HAt : Hid (ProcsAt wr ao Ps) := H.out.at_.kept HB.out
        subst e
        have HX : Hid (pd Ps k = pd Ps k) := rfl
        generalize hx : pd Ps k = x at *
        clear hx HX
        cases hnm : nameB x.name with
        | false =>
          have HV : Hid (checkN Ps = (k, 35)) := by
            have e := HF.out (.inl hnm)
            have := HS.out (by rw [e]; decide)
            rw [e] at this; exact this
          go_wp2_with fail
          refine (refName_any wr x.name (by have := HO.out.str; omega)).mono ?_
          rintro e w2 ⟨rfl, rfl⟩
          rw [hnm]
          go_wp2
          go_ret2
          exact ⟨by rw [HV.out]; rfl, HB.out⟩
        | true =>
          go_wp2_with fail
          refine (refName_any wr x.name (by have := HO.out.str; omega)).mono ?_
          rintro e w2 ⟨rfl, rfl⟩
          rw [hnm]
          go_wp2_with fail
          generalize w2 = wq at *
          go_loopw [5] (fun y wr => ∃ j : Nat, j ≤ k ∧ y = .int .i64 (j : Int) ∧ Hid (hasB (Ps.take j) x.name = false) ∧ ∃ q, wr = wq.drewN q) (fun y _ => k - (intOf y).toNat)
          case atStart => exact ⟨0, by omega, rfl, rfl, 0, rfl⟩
          case round =>
            obtain ⟨j, hj, rfl, HJ, q, rfl⟩ := hrel
            by_cases hjk : j < k
            · have hjl : j < Ps.length := by have := HN.out; omega
              obtain ⟨b', off', e, d0, _⟩ := HAt.out.get j hjl
              cases e
              have HT2 : Hid (hasB (Ps.take (j + 1)) x.name = (hasB (Ps.take j) x.name || ((pd Ps j).name.toList == x.name.toList))) := hasB_take hjl
              have HS2 : Hid (((pd Ps j).name.toList == x.name.toList) = true → hasB (Ps.take k) x.name = true) := fun h => hasB_at (k := j) (by rw [List.length_take]; omega) (by rw [pd_takeD Ps j k hjk]; exact h)
              generalize (pd Ps j).name = yn at *
              cases hq : yn.toList == x.name.toList with
              | true =>
                have HV : Hid (checkN Ps = (k, 35)) := by
                  have e := HF.out (.inr (HS2.out hq))
                  have := HS.out (by rw [e]; decide)
                  rw [e] at this; exact this
                go_wp2_with fail
                go_quiet (fail)
                go_wp2
                go_ret2
                exact ⟨by rw [HV.out]; rfl, HB.out.trans ((below_drewK _ wq q).trans (below_drewK _ _ nq))⟩
              | false =>
                have HJ2 : Hid (hasB (Ps.take (j + 1)) x.name = false) := by rw [HT2.out, HJ.out, hq]; rfl
                go_wp2_with fail
                go_quiet (fail)
                go_wp2
                go_roundw
                case rel => exact ⟨j + 1, by omega, by go_num, HJ2, q + nq, rfl⟩
                case measure => simp [intOf]; omega
            · obtain rfl : j = k := by omega
              have HV : Hid (chkOne Ps j = verifyN x.p x.L) := HT.out hnm HJ.out
              go_wp2_with fail
              refine (refVerify_any (wq.drewN q) x.p x.ao x.n x.cap x.L HO.out.ks HO.out.len).mono ?_
              rintro e W4 ⟨rfl, hb4⟩
              have HB4 : Hid (Below w.heap.size w W4) := (HB.out.trans (below_drewK _ wq q)).trans (hb4.mono HB.out.size)
              rw [← HV.out]
              clear hb4 HV
              generalize hce : chkOne Ps j = ce at *
              by_cases h0 : ce = 0
              · have HA2 : Hid (∀ i, i < j + 1 → chkOne Ps i = 0) := fun i hi => by
                  by_cases e : i = j
                  · rw [e, hce]; exact h0
                  · exact HA.out i (by omega)
                clear hce
                subst h0
                go_wp2
                go_roundw
                case rel => exact ⟨j + 1, by omega, by go_num, HA2, HB4⟩
                case measure => simp [intOf]; omega
              · have h0' : (ce != 0) = true := by simpa using h0
                have HV : Hid (checkN Ps = (j, ce)) := HS.out h0
                clear hce
                go_wp2
                go_ret2
                exact ⟨by rw [HV.out]; rfl, HB4.out⟩
      · obtain rfl : k = n := by omega
        have HV : Hid (checkN Ps = (0, 0)) := checkN_zero (by have := HN.out; omega) (by rw [← HN.out]; exact HA.out)
        go_wp2
        go_ret2
        exact ⟨by rw [HV.out]; rfl, HB.out⟩
end Go.Proofs.YtkjmeknaedapjaaDoor
/-
  THE WALKS OF preluderef01.Uint, Fold, Int.
-/
namespace Go.Proofs.YtkjmeknaedapjaaDoor
open Go.RowKit

/-- append at a slice of bytes of the call's own, as one equation -/
theorem run_append_bytes {w : World} (ty : TypeId) (base : Nat) (v : Value) (L : List Nat) (hown : OwnB w base v L)
    (ao : Option Addr) (m c : Nat) (zs : List Nat) (hm : m = zs.length) (hsrc : BytesAt w ao zs) (hnil : ao = none → c = 0) (hlen : L.length + zs.length ≤ 140737488355328) (hbase : base ≤ w.heap.size) :
    ∃ v' w', (Builtin.append_ #[23, 23] ty #[v, .slice ao m c]).run Tryd.prog w = .ok v' w' ∧ OwnB w' base v' (L ++ zs) ∧ w.grownBy w' v.ownBlock ∧ (v'.ownBlock = v.ownBlock ∨ v'.ownBlock = some w.heap.size) := by
  obtain ⟨i0, hi, hz0, hz1, hz2⟩ := info_parts info8
  subst hm
  have hzz : ∀ z ∈ L ++ zs, z < 256 := by
    intro z hz
    rcases List.mem_append.1 hz with h1 | h1
    · exact hown.1 z h1
    · exact hsrc.1 z h1
  cases ao with
  | none =>
    have h0 : zs = [] := by
      obtain ⟨_, h1 | ⟨b, off, h1, _⟩⟩ := hsrc
      · exact h1
      · cases h1
    subst h0
    obtain rfl := hnil rfl
    exact ⟨v, w, run_append_owned_none (P := Tryd.prog) (w := w) base 23 ty 5 i0 1 Tryd.underlying23 hi v L.length (L.map b8) hown.2, by simpa using hown, World.grownBy.refl _ _, .inl rfl⟩
  | some ad =>
    obtain ⟨v', w', hr, h2, h3, _, h5⟩ := run_append_own_at (P := Tryd.prog) w base 23 ty 5 i0 (.int .u8 0) 1 1 Tryd.underlying23 hi hz0 hz1 hz2 rfl (by decide) v L.length (L.map b8) hown.2 ad zs.length c (zs.map b8) (by simp)
      (by
        intro j u hu
        by_cases h0 : zs = []
        · subst h0; simp at hu
        · obtain ⟨ad', e, hc⟩ := bytes_src hsrc h0
          cases e
          exact hc j u hu) (oneCells zs) (by unfold maxLen; omega) (by omega) hbase
    exact ⟨v', w', hr, ⟨hzz, by rw [List.length_append, List.map_append]; exact h2⟩, h3, h5⟩
/-- at a step of a region that draws -/
theorem step_append_bytes {w : World} {ops : Array Oper} {o : Oper} {a : Act} {K : Act → World → Prop} {Q : Exit → Act → World → Prop} {E : Prop} (hgd : o.guard = none) (s x : Operand)
    (ho : o.op = .call { callee := .builtin .append, args := #[s, x], argTypes := #[23, 23] }) (base : Nat) (v : Value) (L : List Nat) (hs : a.eval s = v) (hown : OwnB w base v L)
    (ao : Option Addr) (m c : Nat) (zs : List Nat) (hx : a.eval x = .slice ao m c) (hm : m = zs.length) (hsrc : BytesAt w ao zs) (hnil : ao = none → c = 0) (hlen : L.length + zs.length ≤ 140737488355328) (hbase : base ≤ w.heap.size)
    (h : ∀ v' w', OwnB w' base v' (L ++ zs) → w.grownBy w' v.ownBlock → (v'.ownBlock = v.ownBlock ∨ v'.ownBlock = some w.heap.size) → K (a.put o.dst v') w') :
    if Region.wanted o (yielded ops a.tmps) = true then Oper.wp Tryd.prog o a w K Q else E := by
  have hw : Region.wanted o (yielded ops a.tmps) = true := by simp [Region.wanted, hgd]
  rw [if_pos hw]
  obtain ⟨v', w', hr, h2, h3, h4⟩ := run_append_bytes o.type base v L hown ao m c zs hm hsrc hnil hlen hbase
  unfold Oper.wp execOp
  simp only [ho, resolve, invoke, builtin, Sem.run_bind, Sem.run_pure, Result.andThen_ok, List.map_toArray, List.map_cons, List.map_nil, hs, hx, hr]
  exact h v' w' h2 h3 h4

theorem below_grown {w w1 : World} {row : Option Nat} {B : Nat} (h : w.grownBy w1 row) (hr : ∀ k, row = some k → B ≤ k) (hB : B ≤ w.heap.size) : Below B w w1 :=
  ⟨h.os, h.tape, h.output, h.size, fun k hk => h.block k (by omega) (fun e => by have := hr k e.symm; omega)⟩

set_option maxHeartbeats 400000 in
theorem refUint_any (w : World) (n : Nat) (hn : n < 18446744073709551616) :
    Calls Tryd.prog 32 #[.int .u64 (n : Int)] w fun e w' => ∃ v, e = .returned v ∧ OwnB w' w.heap.size v (uint 10 n) ∧ Below w.heap.size w w' := by
  go_enter Tryd.func32, Tryd.ntmps32
  go_wp2
  go_loopw [0, 3] (fun x y wr => ∃ (m f : Nat) (M : List Nat) (v1 : Value), x = .int .u64 (m : Int) ∧ y = v1 ∧ m < 2 ^ (7 * f + 1) ∧ f ≤ 9 ∧ M.length + f + 1 ≤ 11 ∧ Hid (M ++ uint (f + 1) m = uint 10 n) ∧ Hid (OwnB wr w.heap.size v1 M) ∧ Hid (Below w.heap.size w wr)) (fun x _ _ => (intOf x).toNat)
  case atStart => exact ⟨n, 9, [], _, rfl, rfl, by omega, by omega, by simp, by simp [Hid], OwnB.nil _ _, Below.refl _ _⟩
  case round =>
    obtain ⟨m, f, M, v1, rfl, rfl, hm, hf, hML, hM, hW, hB⟩ := hrel
    have hml : m < 18446744073709551616 := by
      have : 2 ^ (7 * f + 1) ≤ 2 ^ 64 := Nat.pow_le_pow_right (by omega) (by omega)
      omega
    by_cases hge : 128 ≤ m
    · have hge' : (128 : Int) ≤ (m : Int) := by omega
      obtain ⟨f', rfl⟩ : ∃ f', f = f' + 1 := by
        cases f with
        | zero => simp at hm; omega
        | succ f => exact ⟨f, rfl⟩
      have HM : Hid ((M ++ [m % 128 + 128]) ++ uint (f' + 1) (m / 128) = uint 10 n) := by
        rw [Hid, ← hM.out, List.append_assoc]
        congr 1
        rw [uint_more _ _ hge]; rfl
      have hm7 : m / 128 < 2 ^ (7 * f' + 1) := by
        have e : 2 ^ (7 * (f' + 1) + 1) = 128 * 2 ^ (7 * f' + 1) := by rw [show 7 * (f' + 1) + 1 = 7 + (7 * f' + 1) by omega, Nat.pow_add]
        omega
      obtain ⟨z, hz⟩ : ∃ z : Nat, (m : Int) % 128 + 128 = (z : Int) := ⟨m % 128 + 128, by omega⟩
      have hz256 : z < 256 := by omega
      have HZ : Hid (z = m % 128 + 128) := by rw [Hid]; omega
      go_wp2_with (at_builtin; refine wpList_append_bytes rfl _ _ rfl w.heap.size _ M rfl (hW.out.alloc _) _ _ _ [z] rfl rfl (byte_src _ _ z rfl hz256) (by simp) (by simp; omega) (by have := hB.out.size; simp; omega) ?_; intro v' w1 hown1 hgrow1)
      have HW1 : Hid (OwnB w1 w.heap.size v' (M ++ [m % 128 + 128])) := by rw [← HZ.out]; exact hown1
      have HB1 : Hid (Below w.heap.size w w1) := hB.out.trans (below_grown (grown_alloc w1 hgrow1) (fun k hk => (hW.out.2.lt k hk).1) hB.out.size)
      go_roundw
      case rel => exact ⟨m / 128, f', M ++ [m % 128 + 128], v', by go_num, rfl, hm7, by omega, by simp; omega, HM, HW1, HB1⟩
      case measure => simp [intOf]; omega
    · have hge' : ¬ (128 : Int) ≤ (m : Int) := by omega
      have HM : Hid (M ++ [m] = uint 10 n) := by
        rw [Hid, ← hM.out, uint_last _ _ hge]
      go_wp2_with (at_builtin; refine wpList_append_bytes rfl _ _ rfl w.heap.size _ M rfl (hW.out.alloc _) _ _ _ [m] rfl rfl (byte_src _ _ m rfl (by omega)) (by simp) (by simp; omega) (by have := hB.out.size; simp; omega) ?_; intro v' w1 hown1 hgrow1)
      have HB1 : Hid (Below w.heap.size w w1) := hB.out.trans (below_grown (grown_alloc w1 hgrow1) (fun k hk => (hW.out.2.lt k hk).1) hB.out.size)
      go_ret
      exact ⟨v', rfl, by rw [← HM.out]; exact hown1, HB1.out⟩

theorem refFold_any (w : World) (n : Int) (h0 : -9223372036854775808 ≤ n) (h1 : n ≤ 9223372036854775807) :
    Calls Tryd.prog 83 #[.int .i64 n] w fun e w' => e = .returned (.int .u64 ((fold n : Nat) : Int)) ∧ w' = w := by
  go_enter Tryd.func83, Tryd.ntmps83
  by_cases hn : n < 0
  · have hn' : ¬ 0 ≤ n := by omega
    have hf : 2 * (-1 - n) + 1 = ((fold n : Nat) : Int) := by unfold fold; rw [if_pos hn]; omega
    go_wp2
    go_ret
    exact ⟨rfl, rfl⟩
  · have hn' : 0 ≤ n := by omega
    have hf : 2 * n = ((fold n : Nat) : Int) := by unfold fold; rw [if_neg hn]; omega
    go_wp2
    go_ret
    exact ⟨rfl, rfl⟩

theorem refInt_any (w : World) (n : Int) (h0 : -9223372036854775808 ≤ n) (h1 : n ≤ 9223372036854775807) :
    Calls Tryd.prog 62 #[.int .i64 n] w fun e w' => ∃ v, e = .returned v ∧ OwnB w' w.heap.size v (uint 10 (fold n)) ∧ Below w.heap.size w w' := by
  go_enter Tryd.func62, Tryd.ntmps62
  go_wp2_with fail
  refine (refFold_any w n h0 h1).mono ?_
  rintro e w1 ⟨rfl, rfl⟩
  go_wp2_with fail
  refine (refUint_any w1 (fold n) (fold_lt n h0 h1)).mono ?_
  rintro e w2 ⟨v, rfl, hown, hbel⟩
  go_wp2
  go_ret
  exact ⟨v, rfl, hown, hbel⟩
end Go.Proofs.YtkjmeknaedapjaaDoor
