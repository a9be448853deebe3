/-
  THE WALKS OF THE DOCUMENT'S Name, Check.
-/
import Derived.Test.YtkpggbjibngplaaLCheck
import Derived.Test.YtkpggbjibngplaaLRefL
namespace Go.Proofs.Ytkpggbjibngplaa
open Go.RowKit Go.Sort

theorem let_iff (c : Int) : letB c = true ↔ (97 ≤ c ∧ c ≤ 122) ∨ (65 ≤ c ∧ c ≤ 90) := by simp [letB]
theorem dig_iff (c : Int) : digB c = true ↔ 48 ≤ c ∧ c ≤ 57 := by simp [digB]
set_option maxHeartbeats 2000000 in
theorem refName_any (w : World) (s : ByteArray) (hs : s.size ≤ 281474976710656) : Calls Try.prog 28 #[.string s] w fun e w' => e = .returned (.bool (nameB s)) ∧ w' = w := by
  by_cases h1 : s.size < 1
  · have HG : Hid (nameB s = false) := by show nameB s = false; unfold nameB; rw [decide_eq_false (by omega), Bool.false_and, Bool.false_and]
    have h1' : (s.size : Int) < 1 := by omega
    go_enter Try.func28, Try.ntmps28
    go_wp2
    go_ret
    exact ⟨by rw [HG.out]; rfl, rfl⟩
  · have h1' : ¬ (s.size : Int) < 1 := by omega
    by_cases h2 : 31 < s.size
    · have HG : Hid (nameB s = false) := by show nameB s = false; unfold nameB; rw [decide_eq_false (show ¬ s.size ≤ 31 by omega), Bool.and_false, Bool.false_and]
      have h2' : (31 : Int) < (s.size : Int) := by omega
      go_enter Try.func28, Try.ntmps28
      go_wp2
      go_ret
      exact ⟨by rw [HG.out]; rfl, rfl⟩
    · have h2' : ¬ (31 : Int) < (s.size : Int) := by omega
      have hN : Hid (nameB s = goodN s s.size) := by show nameB s = _; unfold nameB; rw [decide_eq_true (show 0 < s.size by omega), decide_eq_true (show s.size ≤ 31 by omega)]; rfl
      go_enter Try.func28, Try.ntmps28
      go_wp2
      go_loop [3] (fun x => ∃ k : Nat, k ≤ s.size ∧ x = .int .i64 (k : Int) ∧ Hid (goodN s k = true)) (fun x => s.size - (intOf x).toNat)
      case atStart => exact ⟨0, Nat.zero_le _, rfl, rfl⟩
      case round =>
        obtain ⟨k, hk, rfl, HA⟩ := hrel
        by_cases hlt : k < s.size
        · have HC := chs_at s k hlt
          have HF : Hid (chB k (chs s k) = false → nameB s = false) := fun h => by rw [hN.out, goodN_false h hlt]
          have HT : Hid (chB k (chs s k) = true → goodN s (k + 1) = true) := fun h => by unfold goodN; rw [HA.out, h]; rfl
          generalize chs s k = c at *
          have hcase : (97 ≤ c ∧ c ≤ 122) ∨ (¬ 97 ≤ c ∧ 65 ≤ c ∧ c ≤ 90) ∨ (97 ≤ c ∧ ¬ c ≤ 122 ∧ 65 ≤ c ∧ ¬ c ≤ 90) ∨ (¬ 97 ≤ c ∧ 65 ≤ c ∧ ¬ c ≤ 90) ∨ (¬ 97 ≤ c ∧ ¬ 65 ≤ c) := by omega
          rcases hcase with ⟨c1, c2⟩ | ⟨c1, c2, c3⟩ | hno
          · have HG : Hid (goodN s (k + 1) = true) := HT.out (by unfold chB; rw [(let_iff c).2 (.inl ⟨c1, c2⟩)]; rfl)
            go_wp2
            go_round
            case rel => exact ⟨k + 1, by omega, by go_num, HG⟩
            case measure => simp [intOf]; omega
          · have HG : Hid (goodN s (k + 1) = true) := HT.out (by unfold chB; rw [(let_iff c).2 (.inr ⟨c2, c3⟩)]; rfl)
            go_wp2
            go_round
            case rel => exact ⟨k + 1, by omega, by go_num, HG⟩
            case measure => simp [intOf]; omega
          · have hl : letB c = false := by
              cases e : letB c with
              | false => rfl
              | true => rw [let_iff] at e; omega
            by_cases h0 : k = 0
            · have HG : Hid (nameB s = false) := HF.out (by unfold chB; rw [hl, h0]; rfl)
              have h0' : ((k : Int) == 0) = true := by rw [h0]; rfl
              clear h0 hl
              rcases hno with ⟨c1, c2, c3, c4⟩ | ⟨c1, c2, c3⟩ | ⟨c1, c2⟩ <;>
              (go_wp2
               go_ret
               exact ⟨by rw [HG.out]; rfl, rfl⟩)
            · have h0' : ((k : Int) == 0) = false := by simp; omega
              by_cases h95 : c = 95
              · have HG : Hid (goodN s (k + 1) = true) := HT.out (by unfold chB; rw [hl]; simp [h0, h95])
                have h95' : (c != 95) = false := by simp [h95]
                clear h0 hl h95
                rcases hno with ⟨c1, c2, c3, c4⟩ | ⟨c1, c2, c3⟩ | ⟨c1, c2⟩ <;>
                (go_wp2
                 go_round
                 case rel => exact ⟨k + 1, by omega, by go_num, HG⟩
                 case measure => simp [intOf]; omega)
              · have h95' : (c != 95) = true := by simpa using h95
                by_cases h48 : c < 48
                · have HG : Hid (nameB s = false) := HF.out (by
                    have hd : digB c = false := by
                      cases e : digB c with
                      | false => rfl
                      | true => rw [dig_iff] at e; omega
                    unfold chB; rw [hl, hd]; simp [h95])
                  clear h0 hl h95
                  rcases hno with ⟨c1, c2, c3, c4⟩ | ⟨c1, c2, c3⟩ | ⟨c1, c2⟩ <;>
                  (go_wp2
                   go_ret
                   exact ⟨by rw [HG.out]; rfl, rfl⟩)
                · by_cases h57 : 57 < c
                  · have HG : Hid (nameB s = false) := HF.out (by
                      have hd : digB c = false := by
                        cases e : digB c with
                        | false => rfl
                        | true => rw [dig_iff] at e; omega
                      unfold chB; rw [hl, hd]; simp [h95])
                    clear h0 hl h95
                    rcases hno with ⟨c1, c2, c3, c4⟩ | ⟨c1, c2, c3⟩ | ⟨c1, c2⟩ <;>
                    (go_wp2
                     go_ret
                     exact ⟨by rw [HG.out]; rfl, rfl⟩)
                  · have HG : Hid (goodN s (k + 1) = true) := HT.out (by unfold chB; rw [hl, (dig_iff c).2 (by omega)]; simp [h0])
                    clear h0 hl h95
                    rcases hno with ⟨c1, c2, c3, c4⟩ | ⟨c1, c2, c3⟩ | ⟨c1, c2⟩ <;>
                    (go_wp2
                     go_round
                     case rel => exact ⟨k + 1, by omega, by go_num, HG⟩
                     case measure => simp [intOf]; omega)
        · obtain rfl : k = s.size := by omega
          have HG : Hid (nameB s = true) := by rw [hN.out, HA.out]; rfl
          go_wp2
          go_ret
          exact ⟨by rw [HG.out]; rfl, rfl⟩

set_option maxRecDepth 100000 in
set_option maxHeartbeats 2000000 in
theorem refCheck_any (w : World) (ao : Option Addr) (n cap : Nat) (Ps : List Pr) (h : LibAt w ao Ps) (hn : n = Ps.length) (hm : n ≤ 140737488351232) :
    Calls Try.prog 19 #[.slice ao n cap] w fun e w' => e = .returned (.tuple #[.int .i64 ((checkN Ps).1 : Int), .int .i64 (checkN Ps).2]) ∧ Below w.heap.size w w' := by
  have H : Hid (LibAt w ao Ps) := h
  have HN : Hid (n = Ps.length) := hn
  clear h hn
  by_cases h64 : 64 < n
  · have HV : Hid (checkN Ps = (0, 36)) := by show checkN Ps = (0, 36); unfold checkN; rw [if_pos (by have := HN.out; omega)]
    go_enter Try.func19, Try.ntmps19
    go_wp2
    go_ret2
    exact ⟨by rw [HV.out]; rfl, Below.refl _ _⟩
  · go_enter Try.func19, Try.ntmps19
    go_wp2
    go_loopw [4] (fun x wr => ∃ k : Nat, k ≤ n ∧ x = .int .i64 (k : Int) ∧ Hid (∀ i, i < k → chkOne Ps i = 0) ∧ Hid (Below w.heap.size w wr)) (fun x _ => n - (intOf x).toNat)
    case atStart => exact ⟨0, Nat.zero_le _, rfl, fun i hi => absurd hi (Nat.not_lt_zero i), Below.refl _ _⟩
    case round =>
      obtain ⟨k, hk, rfl, HA, HB⟩ := hrel
      by_cases hlt : k < n
      · have hlt' : k < Ps.length := by have := HN.out; omega
        obtain ⟨b, off, e, c0, c1, c2, c3, c4, c5⟩ := (H.out.at_.kept HB.out).get k hlt'
        have HS : Hid (chkOne Ps k ≠ 0 → checkN Ps = (k, chkOne Ps k)) := fun h => checkN_stop (by have := HN.out; omega) HA.out h hlt'
        have HF : Hid ((nameB (pd Ps k).name = false ∨ hasB (Ps.take k) (pd Ps k).name = true) → chkOne Ps k = 35) := chkOne_bad
        have HT : Hid (nameB (pd Ps k).name = true → hasB (Ps.take k) (pd Ps k).name = false → chkOne Ps k = verifyN (pd Ps k).p (pd Ps k).L) := chkOne_good
        have HO : Hid (PrOK wr (pd Ps k)) := (H.out.ok _ (pd_mem hlt')).kept HB.out
        have HAt : Hid (ProcsAt wr ao Ps) := H.out.at_.kept HB.out
        subst e
        have HX : Hid (pd Ps k = pd Ps k) := rfl
        generalize hx : pd Ps k = x at *
        clear hx HX
        cases hnm : nameB x.name with
        | false =>
          have HV : Hid (checkN Ps = (k, 35)) := by
            have e := HF.out (.inl hnm)
            have := HS.out (by rw [e]; decide)
            rw [e] at this; exact this
          go_wp2_with fail
          refine (refName_any wr x.name (by have := HO.out.str; omega)).mono ?_
          rintro e w2 ⟨rfl, rfl⟩
          rw [hnm]
          go_wp2
          go_ret2
          exact ⟨by rw [HV.out]; rfl, HB.out⟩
        | true =>
          go_wp2_with fail
          refine (refName_any wr x.name (by have := HO.out.str; omega)).mono ?_
          rintro e w2 ⟨rfl, rfl⟩
          rw [hnm]
          go_wp2_with fail
          generalize w2 = wq at *
          go_loopw [5] (fun y wr => ∃ j : Nat, j ≤ k ∧ y = .int .i64 (j : Int) ∧ Hid (hasB (Ps.take j) x.name = false) ∧ ∃ q, wr = wq.drewN q) (fun y _ => k - (intOf y).toNat)
          case atStart => exact ⟨0, by omega, rfl, rfl, 0, rfl⟩
          case round =>
            obtain ⟨j, hj, rfl, HJ, q, rfl⟩ := hrel
            by_cases hjk : j < k
            · have hjl : j < Ps.length := by have := HN.out; omega
              obtain ⟨b', off', e, d0, _⟩ := HAt.out.get j hjl
              cases e
              have HT2 : Hid (hasB (Ps.take (j + 1)) x.name = (hasB (Ps.take j) x.name || ((pd Ps j).name.toList == x.name.toList))) := hasB_take hjl
              have HS2 : Hid (((pd Ps j).name.toList == x.name.toList) = true → hasB (Ps.take k) x.name = true) := fun h => hasB_at (k := j) (by rw [List.length_take]; omega) (by rw [pd_takeD Ps j k hjk]; exact h)
              generalize (pd Ps j).name = yn at *
              cases hq : yn.toList == x.name.toList with
              | true =>
                have HV : Hid (checkN Ps = (k, 35)) := by
                  have e := HF.out (.inr (HS2.out hq))
                  have := HS.out (by rw [e]; decide)
                  rw [e] at this; exact this
                go_wp2_with fail
                go_quiet (fail)
                go_wp2
                go_ret2
                exact ⟨by rw [HV.out]; rfl, HB.out.trans ((below_drewK _ wq q).trans (below_drewK _ _ nq))⟩
              | false =>
                have HJ2 : Hid (hasB (Ps.take (j + 1)) x.name = false) := by rw [HT2.out, HJ.out, hq]; rfl
                go_wp2_with fail
                go_quiet (fail)
                go_wp2
                go_roundw
                case rel => exact ⟨j + 1, by omega, by go_num, HJ2, q + nq, rfl⟩
                case measure => simp [intOf]; omega
            · obtain rfl : j = k := by omega
              have HV : Hid (chkOne Ps j = verifyN x.p x.L) := HT.out hnm HJ.out
              go_wp2_with fail
              refine (refVerify_any (wq.drewN q) x.p x.ao x.n x.cap x.L HO.out.ks HO.out.len).mono ?_
              rintro e W4 ⟨rfl, hb4⟩
              have HB4 : Hid (Below w.heap.size w W4) := (HB.out.trans (below_drewK _ wq q)).trans (hb4.mono HB.out.size)
              rw [← HV.out]
              clear hb4 HV
              generalize hce : chkOne Ps j = ce at *
              by_cases h0 : ce = 0
              · have HA2 : Hid (∀ i, i < j + 1 → chkOne Ps i = 0) := fun i hi => by
                  by_cases e : i = j
                  · rw [e, hce]; exact h0
                  · exact HA.out i (by omega)
                clear hce
                subst h0
                go_wp2
                go_roundw
                case rel => exact ⟨j + 1, by omega, by go_num, HA2, HB4⟩
                case measure => simp [intOf]; omega
              · have h0' : (ce != 0) = true := by simpa using h0
                have HV : Hid (checkN Ps = (j, ce)) := HS.out h0
                clear hce
                go_wp2
                go_ret2
                exact ⟨by rw [HV.out]; rfl, HB4.out⟩
      · obtain rfl : k = n := by omega
        have HV : Hid (checkN Ps = (0, 0)) := checkN_zero (by have := HN.out; omega) (by rw [← HN.out]; exact HA.out)
        go_wp2
        go_ret2
        exact ⟨by rw [HV.out]; rfl, HB.out⟩
end Go.Proofs.Ytkpggbjibngplaa
