import Derived.Test.YtkmafpfldnapjaaGreatDoorKLRefD
import Derived.Deep.QuietTactic
import Derived.Test.YtkmafpfldnapjaaGreatDoorKLProc
import Derived.Deep.DeepCutAuto
/-
  THE WALKS OF layer 4's sameCode, sameLib.
-/
namespace Go.Proofs.YtkmafpfldnapjaaGreatDoor
open Go.RowKit Go.Sort

set_option maxHeartbeats 1000000 in
theorem sameCode_eq (w : World) (a1 a2 : Option Addr) (n c1 c2 : Nat) (L : List K) (h1 : KeysAt w a1 L) (h2 : KeysAt w a2 L) (hn : n = L.length) (hm : n * 16 ≤ 140737488355328) :
    Calls Tryz.prog 29 #[.slice a1 n c1, .slice a2 n c2] w fun e w' => e = .returned (.bool true) ∧ ∃ q os, w' = grow (w.drewN q) os := by
  have H1 : Hid (KeysAt w a1 L) := h1
  have H2 : Hid (KeysAt w a2 L) := h2
  have HN : Hid (n = L.length) := hn
  clear h1 h2 hn
  go_enter Tryz.func29, Tryz.ntmps29
  go_wp2_with fail
  go_loopw [5] (fun x wr => ∃ k : Nat, k ≤ n ∧ x = .int .i64 (k : Int) ∧ Hid (Grew w wr)) (fun x _ => n - (intOf x).toNat)
  case atStart => exact ⟨0, by omega, rfl, Grew.refl _⟩
  case round =>
    obtain ⟨k, hk, rfl, HG⟩ := hrel
    by_cases hlt : k < n
    · obtain ⟨b1, o1, rfl, c11, c12⟩ := (H1.out.grew HG.out).get k (by have := HN.out; omega)
      obtain ⟨b2, o2, rfl, c21, c22⟩ := (H2.out.grew HG.out).get k (by have := HN.out; omega)
      generalize cd L k = kk at *
      obtain ⟨t, r⟩ := kk
      simp only at c11 c12 c21 c22
      have hq := run_neSame t r
      have hgd := fun op x y => run_eqGuard op x y t r t r
      go_wp2_with fail
      go_quiet (fail)
      go_wp2
      go_roundw
      case rel => exact ⟨k + 1, by omega, by go_num, HG.out.drewN nq⟩
      case measure => simp [intOf]; omega
    · obtain rfl : k = n := by omega
      go_wp2
      go_ret
      exact ⟨rfl, HG.out⟩

set_option maxRecDepth 100000 in
set_option maxHeartbeats 2000000 in
theorem sameLib_eq (w : World) (a1 a2 : Option Addr) (n c1 c2 : Nat) (Qs Ps : List Pr) (h1 : ProcsAt w a1 Qs) (h2 : ProcsAt w a2 Ps) (hn : n = Ps.length) (hn1 : n = Qs.length) (hm : n ≤ 140737488351232)
    (hk : ∀ i, i < n → LikeP (pd Qs i) (pd Ps i) ∧ KeysAt w (pd Qs i).ao (pd Qs i).L ∧ KeysAt w (pd Ps i).ao (pd Ps i).L ∧ (pd Ps i).n = (pd Ps i).L.length ∧ (pd Ps i).n * 16 ≤ 140737488355328) :
    Calls Tryz.prog 10 #[.slice a1 n c1, .slice a2 n c2] w fun e w' => e = .returned (.bool true) ∧ ∃ q os, w' = grow (w.drewN q) os := by
  have H1 : Hid (ProcsAt w a1 Qs) := h1
  have H2 : Hid (ProcsAt w a2 Ps) := h2
  have HN : Hid (n = Ps.length) := hn
  have HN1 : Hid (n = Qs.length) := hn1
  have HK : Hid (∀ i, i < n → LikeP (pd Qs i) (pd Ps i) ∧ KeysAt w (pd Qs i).ao (pd Qs i).L ∧ KeysAt w (pd Ps i).ao (pd Ps i).L ∧ (pd Ps i).n = (pd Ps i).L.length ∧ (pd Ps i).n * 16 ≤ 140737488355328) := hk
  clear h1 h2 hn hn1 hk
  have mx := mixed
  go_enter Tryz.func10, Tryz.ntmps10
  go_wp2_with fail
  go_loopw [5] (fun x wr => ∃ k : Nat, k ≤ n ∧ x = .int .i64 (k : Int) ∧ Hid (Grew w wr)) (fun x _ => n - (intOf x).toNat)
  case atStart => exact ⟨0, by omega, rfl, Grew.refl _⟩
  case round =>
    obtain ⟨k, hk, rfl, HG⟩ := hrel
    by_cases hlt : k < n
    · obtain ⟨b1, o1, rfl, u0, u1, u2, u3, u4, u5⟩ := (H1.out.grew HG.out).get k (by have := HN1.out; omega)
      obtain ⟨b2, o2, rfl, v0, v1, v2, v3, v4, v5⟩ := (H2.out.grew HG.out).get k (by have := HN.out; omega)
      obtain ⟨lk, k1, k2, kl, kb⟩ := HK.out k hlt
      have HKL : Hid ((pd Ps k).n = (pd Ps k).L.length) := kl
      clear kl
      rw [lk.name] at u0
      rw [lk.p] at u1 u2 u3 u4
      rw [lk.n] at u5
      rw [lk.L] at k1
      generalize pd Ps k = y at *
      generalize (pd Qs k).ao = xa at *
      generalize (pd Qs k).cap = xc at *
      obtain ⟨⟨z1, z2, z3, z4⟩, hyp⟩ : ∃ z, z = y.p := ⟨_, rfl⟩
      rw [← hyp] at u1 u2 u3 u4 v1 v2 v3 v4
      simp only at u1 u2 u3 u4 v1 v2 v3 v4
      have GB : Grew wr (wr.alloc (.cells #[.int .i64 z1, .int .i64 z2, .int .i64 z3, .int .i64 z4, .slice xa y.n xc] 58)) := (Grew.refl _).alloc _
      have V1 := GB.cell v1
      have V2 := GB.cell v2
      have V3 := GB.cell v3
      have V4 := GB.cell v4
      have V5 := GB.cell v5
      clear GB
      have HG0 : Hid (Grew wr ((wr.alloc (.cells #[.int .i64 z1, .int .i64 z2, .int .i64 z3, .int .i64 z4, .slice xa y.n xc] 58)).alloc (.cells #[.int .i64 z1, .int .i64 z2, .int .i64 z3, .int .i64 z4, .slice y.ao y.n y.cap] 58))) := ((Grew.refl _).alloc _).alloc _
      have HX0 : Hid (PBox ((wr.alloc (.cells #[.int .i64 z1, .int .i64 z2, .int .i64 z3, .int .i64 z4, .slice xa y.n xc] 58)).alloc (.cells #[.int .i64 z1, .int .i64 z2, .int .i64 z3, .int .i64 z4, .slice y.ao y.n y.cap] 58)) wr.heap.size ⟨z1, z2, z3, z4⟩ xa y.n xc) := (PBox.new wr ⟨z1, z2, z3, z4⟩ xa y.n xc).kept ((Below.refl _ _).alloc (Nat.le_refl _) _)
      have HY0 : Hid (PBox ((wr.alloc (.cells #[.int .i64 z1, .int .i64 z2, .int .i64 z3, .int .i64 z4, .slice xa y.n xc] 58)).alloc (.cells #[.int .i64 z1, .int .i64 z2, .int .i64 z3, .int .i64 z4, .slice y.ao y.n y.cap] 58)) (wr.heap.size + 1) ⟨z1, z2, z3, z4⟩ y.ao y.n y.cap) := by
        have := PBox.new (wr.alloc (.cells #[.int .i64 z1, .int .i64 z2, .int .i64 z3, .int .i64 z4, .slice xa y.n xc] 58)) ⟨z1, z2, z3, z4⟩ y.ao y.n y.cap
        rw [World.size_alloc] at this
        exact this
      have K1 := k1.grew (HG.out.trans HG0.out)
      have K2 := k2.grew (HG.out.trans HG0.out)
      have U0 := HG0.out.cell u0
      have V0 := HG0.out.cell v0
      have HG := HG.out.trans HG0.out
      have HGn : Hid (Grew w ((wr.alloc (.cells #[.int .i64 z1, .int .i64 z2, .int .i64 z3, .int .i64 z4, .slice xa y.n xc] 58)).alloc (.cells #[.int .i64 z1, .int .i64 z2, .int .i64 z3, .int .i64 z4, .slice y.ao y.n y.cap] 58))) := HG
      go_upto_region 8 with fail
      generalize (wr.alloc (.cells #[.int .i64 z1, .int .i64 z2, .int .i64 z3, .int .i64 z4, .slice xa y.n xc] 58)).alloc (.cells #[.int .i64 z1, .int .i64 z2, .int .i64 z3, .int .i64 z4, .slice y.ao y.n y.cap] 58) = W1 at *
      generalize wr.heap.size = B1 at *
      have HC : Hid (∀ m os, Calls Tryz.prog 29 #[.slice xa y.n xc, .slice y.ao y.n y.cap] (grow (W1.drewN m) os) fun e w' => e = .returned (.bool true) ∧ ∃ q os', w' = grow ((grow (W1.drewN m) os).drewN q) os') := fun m os =>
        sameCode_eq _ xa y.ao y.n xc y.cap y.L (K1.grew ⟨m, os, rfl⟩) (K2.grew ⟨m, os, rfl⟩) HKL.out kb
      obtain ⟨p0, p1, p2, p3, p4⟩ := HX0.out.cells
      obtain ⟨r0, r1, r2, r3, r4⟩ := HY0.out.cells
      simp only at p0 p1 p2 p3 p4 r0 r1 r2 r3 r4
      have gu0 : ∀ m os, (grow (W1.drewN m) os).cell? ⟨b1, o1 + k * 6, none⟩ = some (.string y.name) := fun m os => Grew.cell ⟨m, os, rfl⟩ U0
      have gv0 : ∀ m os, (grow (W1.drewN m) os).cell? ⟨b2, o2 + k * 6, none⟩ = some (.string y.name) := fun m os => Grew.cell ⟨m, os, rfl⟩ V0
      have gp0 : ∀ m os, (grow (W1.drewN m) os).cell? ⟨B1, 0, none⟩ = some (.int .i64 z1) := fun m os => Grew.cell ⟨m, os, rfl⟩ p0
      have gp1 : ∀ m os, (grow (W1.drewN m) os).cell? ⟨B1, 1, none⟩ = some (.int .i64 z2) := fun m os => Grew.cell ⟨m, os, rfl⟩ p1
      have gp2 : ∀ m os, (grow (W1.drewN m) os).cell? ⟨B1, 2, none⟩ = some (.int .i64 z3) := fun m os => Grew.cell ⟨m, os, rfl⟩ p2
      have gp3 : ∀ m os, (grow (W1.drewN m) os).cell? ⟨B1, 3, none⟩ = some (.int .i64 z4) := fun m os => Grew.cell ⟨m, os, rfl⟩ p3
      have gp4 : ∀ m os, (grow (W1.drewN m) os).cell? ⟨B1, 4, none⟩ = some (.slice xa y.n xc) := fun m os => Grew.cell ⟨m, os, rfl⟩ p4
      have gr0 : ∀ m os, (grow (W1.drewN m) os).cell? ⟨B1 + 1, 0, none⟩ = some (.int .i64 z1) := fun m os => Grew.cell ⟨m, os, rfl⟩ r0
      have gr1 : ∀ m os, (grow (W1.drewN m) os).cell? ⟨B1 + 1, 1, none⟩ = some (.int .i64 z2) := fun m os => Grew.cell ⟨m, os, rfl⟩ r1
      have gr2 : ∀ m os, (grow (W1.drewN m) os).cell? ⟨B1 + 1, 2, none⟩ = some (.int .i64 z3) := fun m os => Grew.cell ⟨m, os, rfl⟩ r2
      have gr3 : ∀ m os, (grow (W1.drewN m) os).cell? ⟨B1 + 1, 3, none⟩ = some (.int .i64 z4) := fun m os => Grew.cell ⟨m, os, rfl⟩ r3
      have gr4 : ∀ m os, (grow (W1.drewN m) os).cell? ⟨B1 + 1, 4, none⟩ = some (.slice y.ao y.n y.cap) := fun m os => Grew.cell ⟨m, os, rfl⟩ r4
      have hne : (y.name.toList != y.name.toList) = false := by simp
      clear u0 u1 u2 u3 u4 u5 v0 v1 v2 v3 v4 v5 V1 V2 V3 V4 V5 lk k1 k2 HKL kb U0 V0 K1 K2 HG p0 p1 p2 p3 p4 r0 r1 r2 r3 r4 hyp HG0 HX0 HY0
      refine wp_region_quiet_grown mx (by kernel_rfl) ?_
      repeat (go_big_quiet_step ((go_at_call 29; exact Calls.grown_of (HC.out _ _))))
      refine wpQuiet_nil ?_
      intro _ hw'
      obtain ⟨⟨nq, osq⟩, hw''⟩ := hw'
      subst hw''
      have HG2 : Hid (Grew w (grow (W1.drewN nq) osq)) := HGn.out.trans ⟨nq, osq, rfl⟩
      clear gu0 gv0 gp0 gp1 gp2 gp3 gp4 gr0 gr1 gr2 gr3 gr4 HC
      generalize grow (W1.drewN nq) osq = W2 at *
      go_wp2
      go_roundw
      case rel => exact ⟨k + 1, by omega, by go_num, HG2⟩
      case measure => simp [intOf]; omega
    · obtain rfl : k = n := by omega
      go_wp2
      go_ret
      exact ⟨rfl, HG.out⟩

end Go.Proofs.YtkmafpfldnapjaaGreatDoor
/-
  THE WALKS OF THE DOCUMENT'S Name, Check.
-/
namespace Go.Proofs.YtkmafpfldnapjaaGreatDoor
open Go.RowKit Go.Sort

theorem let_iff (c : Int) : letB c = true ↔ (97 ≤ c ∧ c ≤ 122) ∨ (65 ≤ c ∧ c ≤ 90) := by simp [letB]
theorem dig_iff (c : Int) : digB c = true ↔ 48 ≤ c ∧ c ≤ 57 := by simp [digB]
set_option maxHeartbeats 2000000 in
theorem refName_any (w : World) (s : ByteArray) (hs : s.size ≤ 281474976710656) : Calls Tryz.prog 53 #[.string s] w fun e w' => e = .returned (.bool (nameB s)) ∧ w' = w := by
  by_cases h1 : s.size < 1
  · have HG : Hid (nameB s = false) := by show nameB s = false; unfold nameB; rw [decide_eq_false (by omega), Bool.false_and, Bool.false_and]
    have h1' : (s.size : Int) < 1 := by omega
    go_enter Tryz.func53, Tryz.ntmps53
    go_wp2
    go_ret
    exact ⟨by rw [HG.out]; rfl, rfl⟩
  · have h1' : ¬ (s.size : Int) < 1 := by omega
    by_cases h2 : 31 < s.size
    · have HG : Hid (nameB s = false) := by show nameB s = false; unfold nameB; rw [decide_eq_false (show ¬ s.size ≤ 31 by omega), Bool.and_false, Bool.false_and]
      have h2' : (31 : Int) < (s.size : Int) := by omega
      go_enter Tryz.func53, Tryz.ntmps53
      go_wp2
      go_ret
      exact ⟨by rw [HG.out]; rfl, rfl⟩
    · have h2' : ¬ (31 : Int) < (s.size : Int) := by omega
      have hN : Hid (nameB s = goodN s s.size) := by show nameB s = _; unfold nameB; rw [decide_eq_true (show 0 < s.size by omega), decide_eq_true (show s.size ≤ 31 by omega)]; rfl
      go_enter Tryz.func53, Tryz.ntmps53
      go_wp2
      go_loop [3] (fun x => ∃ k : Nat, k ≤ s.size ∧ x = .int .i64 (k : Int) ∧ Hid (goodN s k = true)) (fun x => s.size - (intOf x).toNat)
      case atStart => exact ⟨0, Nat.zero_le _, rfl, rfl⟩
      case round =>
        obtain ⟨k, hk, rfl, HA⟩ := hrel
        by_cases hlt : k < s.size
        · have HC := chs_at s k hlt
          have HF : Hid (chB k (chs s k) = false → nameB s = false) := fun h => by rw [hN.out, goodN_false h hlt]
          have HT : Hid (chB k (chs s k) = true → goodN s (k + 1) = true) := fun h => by unfold goodN; rw [HA.out, h]; rfl
          generalize chs s k = c at *
          have hcase : (97 ≤ c ∧ c ≤ 122) ∨ (¬ 97 ≤ c ∧ 65 ≤ c ∧ c ≤ 90) ∨ (97 ≤ c ∧ ¬ c ≤ 122 ∧ 65 ≤ c ∧ ¬ c ≤ 90) ∨ (¬ 97 ≤ c ∧ 65 ≤ c ∧ ¬ c ≤ 90) ∨ (¬ 97 ≤ c ∧ ¬ 65 ≤ c) := by omega
          rcases hcase with ⟨c1, c2⟩ | ⟨c1, c2, c3⟩ | hno
          · have HG : Hid (goodN s (k + 1) = true) := HT.out (by unfold chB; rw [(let_iff c).2 (.inl ⟨c1, c2⟩)]; rfl)
            go_wp2
            go_round
            case rel => exact ⟨k + 1, by omega, by go_num, HG⟩
            case measure => simp [intOf]; omega
          · have HG : Hid (goodN s (k + 1) = true) := HT.out (by unfold chB; rw [(let_iff c).2 (.inr ⟨c2, c3⟩)]; rfl)
            go_wp2
            go_round
            case rel => exact ⟨k + 1, by omega, by go_num, HG⟩
            case measure => simp [intOf]; omega
          · have hl : letB c = false := by
              cases e : letB c with
              | false => rfl
              | true => rw [let_iff] at e; omega
            by_cases h0 : k = 0
            · have HG : Hid (nameB s = false) := HF.out (by unfold chB; rw [hl, h0]; rfl)
              have h0' : ((k : Int) == 0) = true := by rw [h0]; rfl
              clear h0 hl
              rcases hno with ⟨c1, c2, c3, c4⟩ | ⟨c1, c2, c3⟩ | ⟨c1, c2⟩ <;>
              (go_wp2
               go_ret
               exact ⟨by rw [HG.out]; rfl, rfl⟩)
            · have h0' : ((k : Int) == 0) = false := by simp; omega
              by_cases h95 : c = 95
              · have HG : Hid (goodN s (k + 1) = true) := HT.out (by unfold chB; rw [hl]; simp [h0, h95])
                have h95' : (c != 95) = false := by simp [h95]
                clear h0 hl h95
                rcases hno with ⟨c1, c2, c3, c4⟩ | ⟨c1, c2, c3⟩ | ⟨c1, c2⟩ <;>
                (go_wp2
                 go_round
                 case rel => exact ⟨k + 1, by omega, by go_num, HG⟩
                 case measure => simp [intOf]; omega)
              · have h95' : (c != 95) = true := by simpa using h95
                by_cases h48 : c < 48
                · have HG : Hid (nameB s = false) := HF.out (by
                    have hd : digB c = false := by
                      cases e : digB c with
                      | false => rfl
                      | true => rw [dig_iff] at e; omega
                    unfold chB; rw [hl, hd]; simp [h95])
                  clear h0 hl h95
                  rcases hno with ⟨c1, c2, c3, c4⟩ | ⟨c1, c2, c3⟩ | ⟨c1, c2⟩ <;>
                  (go_wp2
                   go_ret
                   exact ⟨by rw [HG.out]; rfl, rfl⟩)
                · by_cases h57 : 57 < c
                  · have HG : Hid (nameB s = false) := HF.out (by
                      have hd : digB c = false := by
                        cases e : digB c with
                        | false => rfl
                        | true => rw [dig_iff] at e; omega
                      unfold chB; rw [hl, hd]; simp [h95])
                    clear h0 hl h95
                    rcases hno with ⟨c1, c2, c3, c4⟩ | ⟨c1, c2, c3⟩ | ⟨c1, c2⟩ <;>
                    (go_wp2
                     go_ret
                     exact ⟨by rw [HG.out]; rfl, rfl⟩)
                  · have HG : Hid (goodN s (k + 1) = true) := HT.out (by unfold chB; rw [hl, (dig_iff c).2 (by omega)]; simp [h0])
                    clear h0 hl h95
                    rcases hno with ⟨c1, c2, c3, c4⟩ | ⟨c1, c2, c3⟩ | ⟨c1, c2⟩ <;>
                    (go_wp2
                     go_round
                     case rel => exact ⟨k + 1, by omega, by go_num, HG⟩
                     case measure => simp [intOf]; omega)
        · obtain rfl : k = s.size := by omega
          have HG : Hid (nameB s = true) := by rw [hN.out, HA.out]; rfl
          go_wp2
          go_ret
          exact ⟨by rw [HG.out]; rfl, rfl⟩

set_option maxRecDepth 100000 in
set_option maxHeartbeats 2000000 in
theorem refCheck_any (w : World) (ao : Option Addr) (n cap : Nat) (Ps : List Pr) (h : LibAt w ao Ps) (hn : n = Ps.length) (hm : n ≤ 140737488351232) :
    Calls Tryz.prog 23 #[.slice ao n cap] w fun e w' => e = .returned (.tuple #[.int .i64 ((checkN Ps).1 : Int), .int .i64 (checkN Ps).2]) ∧ Below w.heap.size w w' := by
  have H : Hid (LibAt w ao Ps) := h
  have HN : Hid (n = Ps.length) := hn
  clear h hn
  by_cases h64 : 64 < n
  · have HV : Hid (checkN Ps = (0, 36)) := by show checkN Ps = (0, 36); unfold checkN; rw [if_pos (by have := HN.out; omega)]
    go_enter Tryz.func23, Tryz.ntmps23
    go_wp2
    go_ret2
    exact ⟨by rw [HV.out]; rfl, Below.refl _ _⟩
  · go_enter Tryz.func23, Tryz.ntmps23
    go_wp2
    go_loopw [4] (fun x wr => ∃ k : Nat, k ≤ n ∧ x = .int .i64 (k : Int) ∧ Hid (∀ i, i < k → chkOne Ps i = 0) ∧ Hid (Below w.heap.size w wr)) (fun x _ => n - (intOf x).toNat)
    case atStart => exact ⟨0, Nat.zero_le _, rfl, fun i hi => absurd hi (Nat.not_lt_zero i), Below.refl _ _⟩
    case round =>
      obtain ⟨k, hk, rfl, HA, HB⟩ := hrel
      by_cases hlt : k < n
      · have hlt' : k < Ps.length := by have := HN.out; omega
        obtain ⟨b, off, e, c0, c1, c2, c3, c4, c5⟩ := (H.out.at_.kept HB.out).get k hlt'
        have HS : Hid (chkOne Ps k ≠ 0 → checkN Ps = (k, chkOne Ps k)) := fun h => checkN_stop (by have := HN.out; omega) HA.out h hlt'
        have HF : Hid ((nameB (pd Ps k).name = false ∨ hasB (Ps.take k) (pd Ps k).name = true) → chkOne Ps k = 35) := chkOne_bad
        have HT : Hid (nameB (pd Ps k).name = true → hasB (Ps.take k) (pd Ps k).name = false → chkOne Ps k = verifyN (pd Ps k).p (pd Ps k).L) := chkOne_good
        have HO : Hid (PrOK wr (pd Ps k)) := (H.out.ok _ (pd_mem hlt')).kept HB.out
        have HAt : Hid (ProcsAt wr ao Ps) := H.out.at_.kept HB.out
        subst e
        have HX : Hid (pd Ps k = pd Ps k) := rfl
        generalize hx : pd Ps k = x at *
        clear hx HX
        cases hnm : nameB x.name with
        | false =>
          have HV : Hid (checkN Ps = (k, 35)) := by
            have e := HF.out (.inl hnm)
            have := HS.out (by rw [e]; decide)
            rw [e] at this; exact this
          go_wp2_with fail
          refine (refName_any wr x.name (by have := HO.out.str; omega)).mono ?_
          rintro e w2 ⟨rfl, rfl⟩
          rw [hnm]
          go_wp2
          go_ret2
          exact ⟨by rw [HV.out]; rfl, HB.out⟩
        | true =>
          go_wp2_with fail
          refine (refName_any wr x.name (by have := HO.out.str; omega)).mono ?_
          rintro e w2 ⟨rfl, rfl⟩
          rw [hnm]
          go_wp2_with fail
          generalize w2 = wq at *
          go_loopw [5] (fun y wr => ∃ j : Nat, j ≤ k ∧ y = .int .i64 (j : Int) ∧ Hid (hasB (Ps.take j) x.name = false) ∧ ∃ q, wr = wq.drewN q) (fun y _ => k - (intOf y).toNat)
          case atStart => exact ⟨0, by omega, rfl, rfl, 0, rfl⟩
          case round =>
            obtain ⟨j, hj, rfl, HJ, q, rfl⟩ := hrel
            by_cases hjk : j < k
            · have hjl : j < Ps.length := by have := HN.out; omega
              obtain ⟨b', off', e, d0, _⟩ := HAt.out.get j hjl
              cases e
              have HT2 : Hid (hasB (Ps.take (j + 1)) x.name = (hasB (Ps.take j) x.name || ((pd Ps j).name.toList == x.name.toList))) := hasB_take hjl
              have HS2 : Hid (((pd Ps j).name.toList == x.name.toList) = true → hasB (Ps.take k) x.name = true) := fun h => hasB_at (k := j) (by rw [List.length_take]; omega) (by rw [pd_takeD Ps j k hjk]; exact h)
              generalize (pd Ps j).name = yn at *
              cases hq : yn.toList == x.name.toList with
              | true =>
                have HV : Hid (checkN Ps = (k, 35)) := by
                  have e := HF.out (.inr (HS2.out hq))
                  have := HS.out (by rw [e]; decide)
                  rw [e] at this; exact this
                go_wp2_with fail
                go_quiet (fail)
                go_wp2
                go_ret2
                exact ⟨by rw [HV.out]; rfl, HB.out.trans ((below_drewK _ wq q).trans (below_drewK _ _ nq))⟩
              | false =>
                have HJ2 : Hid (hasB (Ps.take (j + 1)) x.name = false) := by rw [HT2.out, HJ.out, hq]; rfl
                go_wp2_with fail
                go_quiet (fail)
                go_wp2
                go_roundw
                case rel => exact ⟨j + 1, by omega, by go_num, HJ2, q + nq, rfl⟩
                case measure => simp [intOf]; omega
            · obtain rfl : j = k := by omega
              have HV : Hid (chkOne Ps j = verifyN x.p x.L) := HT.out hnm HJ.out
              go_wp2_with fail
              refine (refVerify_any (wq.drewN q) x.p x.ao x.n x.cap x.L HO.out.ks HO.out.len).mono ?_
              rintro e W4 ⟨rfl, hb4⟩
              have HB4 : Hid (Below w.heap.size w W4) := (HB.out.trans (below_drewK _ wq q)).trans (hb4.mono HB.out.size)
              rw [← HV.out]
              clear hb4 HV
              generalize hce : chkOne Ps j = ce at *
              by_cases h0 : ce = 0
              · have HA2 : Hid (∀ i, i < j + 1 → chkOne Ps i = 0) := fun i hi => by
                  by_cases e : i = j
                  · rw [e, hce]; exact h0
                  · exact HA.out i (by omega)
                clear hce
                subst h0
                go_wp2
                go_roundw
                case rel => exact ⟨j + 1, by omega, by go_num, HA2, HB4⟩
                case measure => simp [intOf]; omega
              · have h0' : (ce != 0) = true := by simpa using h0
                have HV : Hid (checkN Ps = (j, ce)) := HS.out h0
                clear hce
                go_wp2
                go_ret2
                exact ⟨by rw [HV.out]; rfl, HB4.out⟩
      · obtain rfl : k = n := by omega
        have HV : Hid (checkN Ps = (0, 0)) := checkN_zero (by have := HN.out; omega) (by rw [← HN.out]; exact HA.out)
        go_wp2
        go_ret2
        exact ⟨by rw [HV.out]; rfl, HB.out⟩
end Go.Proofs.YtkmafpfldnapjaaGreatDoor
/-
  LIBRARIES: wide, library, sameLibrary.
-/
namespace Go.Proofs.YtkmafpfldnapjaaGreatDoor
open Go.RowKit Go.Sort

/-- parts of the first k -/
def totN (n : Nat) (Ps : List Pr) : Nat → Nat
  | 0 => n
  | k + 1 => totN n Ps k + (pd Ps k).n
theorem totN_le {n : Nat} {Ps : List Pr} {k : Nat} (h : totN n Ps k ≤ 100000) : n ≤ 100000 ∧ ∀ i, i < k → (pd Ps i).n ≤ 100000 := by
  induction k with
  | zero => exact ⟨h, fun i hi => by omega⟩
  | succ k ih =>
    simp only [totN] at h
    obtain ⟨h1, h2⟩ := ih (by omega)
    refine ⟨h1, fun i hi => ?_⟩
    by_cases e : i = k
    · subst e; omega
    · exact h2 i (by omega)
def WidePost (n : Nat) (Ps : List Pr) (e : Ending) : Prop := ∃ b, e = .returned (.bool b) ∧ (b = false → n ≤ 100000 ∧ ∀ x ∈ Ps, x.n ≤ 100000)
/-- BLOCK g IS A ROW OF PROCEDURES -/
def RowP (W : World) (g : Nat) (Qs : List Pr) : Prop := W.heap[g]? = some (.cells (prcs Qs).toArray 87 (0, 0))
theorem RowP.lt {W : World} {g : Nat} {Qs : List Pr} (h : RowP W g Qs) : g < W.heap.size := (Array.getElem?_eq_some_iff.1 h).1
theorem RowP.below {W W' : World} {g B : Nat} {Qs : List Pr} (h : RowP W g Qs) (hb : Below B W W') (hg : g < B) : RowP W' g Qs := (hb.block g hg).trans h
theorem RowP.kept {W W' : World} {g : Nat} {Qs : List Pr} (h : RowP W g Qs) (hb : Below W.heap.size W W') : RowP W' g Qs := h.below hb h.lt
theorem RowP.procs {W : World} {g : Nat} {Qs : List Pr} (h : RowP W g Qs) : ProcsAt W (some ⟨g, 0, none⟩) Qs := by
  refine .inr ⟨g, 0, rfl, fun j u hu => ?_⟩
  simp only [World.cell?, show W.heap[g]? = _ from h, Nat.zero_add]
  simpa using hu
theorem RowP.frozen {W : World} {g : Nat} {Qs : List Pr} (h : RowP W g Qs) (j : Nat) : W.frozen? ⟨g, j, none⟩ = false := frozen_of_row W g j _ _ h
theorem infoPL : (Tryz.prog.info? 87).map (fun i => (i.zero, i.size, i.bytes)) = some (some (.agg #[.string ⟨#[]⟩, .int .i64 0, .int .i64 0, .int .i64 0, .int .i64 0, .slice none 0 0]), 6, 72) := by kernel_rfl
theorem prcs_zero (c : Nat) : madeCells (Value.agg #[.string ⟨#[]⟩, .int .i64 0, .int .i64 0, .int .i64 0, .int .i64 0, .slice none 0 0]).cells (c * 6) = (prcs (List.replicate c prD)).toArray := by
  apply Array.ext'
  apply List.ext_getElem?
  intro j
  by_cases hj : j < c * 6
  · obtain ⟨q, i, rfl, hi⟩ : ∃ q i, j = q * 6 + i ∧ i < 6 := ⟨j / 6, j % 6, by omega, Nat.mod_lt _ (by omega)⟩
    have hq : q < c := by omega
    have e : pd (List.replicate c prD) q = prD := by simp [pd, List.getD_eq_getElem?_getD, hq]
    rw [show (prcs (List.replicate c prD)).toArray.toList = prcs (List.replicate c prD) from rfl, prcs_at _ q i (by simpa using hq) hi, e]
    have hm : (q * 6 + i) % 6 = i := by omega
    obtain rfl | rfl | rfl | rfl | rfl | rfl : i = 0 ∨ i = 1 ∨ i = 2 ∨ i = 3 ∨ i = 4 ∨ i = 5 := by omega
    · simp only [Nat.add_zero] at hj hm ⊢
      simp [madeCells, Value.cells, hj, hm, prc, prD]
    all_goals simp [madeCells, Value.cells, hj, hm, prc, prD]
  · rw [show (prcs (List.replicate c prD)).toArray.toList = prcs (List.replicate c prD) from rfl, List.getElem?_eq_none (by simp [madeCells]; omega), List.getElem?_eq_none (by rw [prcs_length]; simp; omega)]
theorem make_procs (c : Nat) (C : Int) (hC : C = c) (hc : c * 72 ≤ 281474976710656) (u : World) : (Go.Instr.makeSlice 22 (.int .i64 C) (.int .i64 C)).run Tryz.prog u =
    .ok (.slice (some ⟨u.heap.size, 0, none⟩) c c) (u.alloc (.cells (prcs (List.replicate c prD)).toArray 87)) := by
  subst hC
  obtain ⟨i0, hi, hz0, hz1, hz2⟩ := info_parts infoPL
  have h := run_make (P := Tryz.prog) u 22 87 i0 (.agg #[.string ⟨#[]⟩, .int .i64 0, .int .i64 0, .int .i64 0, .int .i64 0, .slice none 0 0]) Tryz.underlying22 hi hz0 .i64 .i64 (c : Int) (c : Int) (by omega) (Int.le_refl _) (by rw [hz2]; omega) (by omega)
  rw [hz1, Int.toNat_natCast, prcs_zero] at h
  exact h
/-- the procedure of a copy -/
def cpP (x : Pr) (G : Nat) : Pr := ⟨x.name, x.p, some ⟨G, 0, none⟩, x.n, x.n + 2, x.L⟩
theorem prcs_set : ∀ (Qs : List Pr) (i : Nat) (y : Pr), i < Qs.length → ((((((prcs Qs).set (i * 6) (.string y.name)).set (i * 6 + 1) (.int .i64 y.p.args)).set (i * 6 + 2) (.int .i64 y.p.reads)).set (i * 6 + 3) (.int .i64 y.p.writes)).set (i * 6 + 4) (.int .i64 y.p.locals)).set (i * 6 + 5) (.slice y.ao y.n y.cap) = prcs (Qs.set i y)
  | [], i, y, h => by simp at h
  | x :: Qs, 0, y, _ => by
    simp only [List.set_cons_zero, prcs, prc, List.cons_append, List.nil_append, Nat.zero_mul, Nat.zero_add, List.set_cons_succ]
  | x :: Qs, i + 1, y, h => by
    have ih := prcs_set Qs i y (by simp at h; omega)
    rw [show (i + 1) * 6 = i * 6 + 1 + 1 + 1 + 1 + 1 + 1 by omega, show i * 6 + 1 + 1 + 1 + 1 + 1 + 1 + 1 = (i * 6 + 1) + 1 + 1 + 1 + 1 + 1 + 1 by omega, show i * 6 + 1 + 1 + 1 + 1 + 1 + 1 + 2 = (i * 6 + 2) + 1 + 1 + 1 + 1 + 1 + 1 by omega,
      show i * 6 + 1 + 1 + 1 + 1 + 1 + 1 + 3 = (i * 6 + 3) + 1 + 1 + 1 + 1 + 1 + 1 by omega, show i * 6 + 1 + 1 + 1 + 1 + 1 + 1 + 4 = (i * 6 + 4) + 1 + 1 + 1 + 1 + 1 + 1 by omega, show i * 6 + 1 + 1 + 1 + 1 + 1 + 1 + 5 = (i * 6 + 5) + 1 + 1 + 1 + 1 + 1 + 1 by omega]
    simp only [List.set_cons_succ, prcs, prc, List.cons_append, List.nil_append, ih]
theorem RowP.put {W : World} {g k : Nat} {Qs : List Pr} (h : RowP W g Qs) (hk : k < Qs.length) (y : Pr) :
    RowP ((((((W.setCell ⟨g, k * 6, none⟩ (.string y.name)).setCell ⟨g, k * 6 + 1, none⟩ (.int .i64 y.p.args)).setCell ⟨g, k * 6 + 2, none⟩ (.int .i64 y.p.reads)).setCell ⟨g, k * 6 + 3, none⟩ (.int .i64 y.p.writes)).setCell ⟨g, k * 6 + 4, none⟩ (.int .i64 y.p.locals)).setCell ⟨g, k * 6 + 5, none⟩ (.slice y.ao y.n y.cap)) g (Qs.set k y) := by
  have h1 := heap_setCell_same W g (k * 6) _ _ (.string y.name) h
  have h2 := heap_setCell_same _ g (k * 6 + 1) _ _ (.int .i64 y.p.args) h1
  have h3 := heap_setCell_same _ g (k * 6 + 2) _ _ (.int .i64 y.p.reads) h2
  have h4 := heap_setCell_same _ g (k * 6 + 3) _ _ (.int .i64 y.p.writes) h3
  have h5 := heap_setCell_same _ g (k * 6 + 4) _ _ (.int .i64 y.p.locals) h4
  have h6 := heap_setCell_same _ g (k * 6 + 5) _ _ (.slice y.ao y.n y.cap) h5
  unfold RowP
  rw [h6, ← prcs_set Qs k y hk]
  simp

theorem prcs_name : ∀ (Qs : List Pr) (i : Nat) (nm : ByteArray), i < Qs.length → (prcs Qs).set (i * 6) (.string nm) = prcs (Qs.set i { pd Qs i with name := nm })
  | [], i, y, h => by simp at h
  | x :: Qs, 0, y, _ => by
    simp only [List.set_cons_zero, prcs, prc, List.cons_append, List.nil_append, Nat.zero_mul]
    rfl
  | x :: Qs, i + 1, y, h => by
    have ih := prcs_name Qs i y (by simp at h; omega)
    rw [show (i + 1) * 6 = i * 6 + 1 + 1 + 1 + 1 + 1 + 1 by omega]
    have e : pd (x :: Qs) (i + 1) = pd Qs i := by simp [pd]
    simp only [List.set_cons_succ, prcs, prc, List.cons_append, List.nil_append, ih, e]
theorem RowP.setName {W : World} {g k : Nat} {Qs : List Pr} (h : RowP W g Qs) (hk : k < Qs.length) (nm : ByteArray) : RowP (W.setCell ⟨g, k * 6, none⟩ (.string nm)) g (Qs.set k { pd Qs k with name := nm }) := by
  have h1 := heap_setCell_same W g (k * 6) _ _ (.string nm) h
  unfold RowP
  rw [h1, ← prcs_name Qs k nm hk]
  simp
theorem KeysAt.sameB {W W' : World} {ao : Option Addr} {L : List K} (h : KeysAt W ao L) (hs : ∀ a, ao = some a → W'.heap[a.block]? = W.heap[a.block]?) : KeysAt W' ao L := by
  rcases h with rfl | ⟨b, off, rfl, hc⟩
  · exact .inl rfl
  · refine .inr ⟨b, off, rfl, fun j u hu => ?_⟩
    have h1 := hc j u hu
    simp only [World.cell?] at h1 ⊢
    rw [hs _ rfl]; exact h1
/-- what a store into one block leaves -/
structure OneB (g : Nat) (W W' : World) : Prop where
  os : W'.os = W.os
  tape : W'.tape = W.tape
  output : W'.output = W.output
  size : W.heap.size ≤ W'.heap.size
  block : ∀ b, b ≠ g → W'.heap[b]? = W.heap[b]?
theorem OneB.refl (g : Nat) (W : World) : OneB g W W := ⟨rfl, rfl, rfl, Nat.le_refl _, fun _ _ => rfl⟩
theorem OneB.set {g : Nat} {W W' : World} (h : OneB g W W') (i : Nat) (v : Value) : OneB g W (W'.setCell ⟨g, i, none⟩ v) := by
  have hb : Below 0 W' (W'.setCell ⟨g, i, none⟩ v) := below_set (Below.refl _ _) _ _ (Nat.zero_le _)
  exact ⟨hb.os.trans h.os, hb.tape.trans h.tape, hb.output.trans h.output, Nat.le_trans h.size hb.size, fun b hne => (heap_setCell_other W' ⟨g, i, none⟩ b v hne).trans (h.block b hne)⟩
theorem OneB.drew {g : Nat} {W W' : World} (h : OneB g W W') : OneB g W W'.drew := ⟨h.os, h.tape, h.output, h.size, h.block⟩
theorem OneB.below {g : Nat} {W W' : World} (h : OneB g W W') : Below g W W' := ⟨h.os, h.tape, h.output, h.size, fun b hb => h.block b (by omega)⟩
def behind : ByteArray := ⟨#[98, 101, 104, 105, 110, 100]⟩
/-- what stands while a library is copied -/
structure LS (w W : World) (n k : Nat) (Ps Qs : List Pr) : Prop where
  row : RowP W w.heap.size Qs
  len : Qs.length = n + 1
  bel : Below w.heap.size w W
  cop : ∀ i, i < k → ∃ G, pd Qs i = cpP (pd Ps i) G ∧ KeysAt W (some ⟨G, 0, none⟩) (pd Ps i).L ∧ w.heap.size < G ∧ G < W.heap.size
theorem LS.kept {w W W' : World} {n k : Nat} {Ps Qs : List Pr} (h : LS w W n k Ps Qs) (hb : Below W.heap.size W W') : LS w W' n k Ps Qs :=
  ⟨h.row.kept hb, h.len, h.bel.trans (hb.mono h.bel.size), fun i hi => let ⟨G, a, b, c, d⟩ := h.cop i hi; ⟨G, a, b.kept hb, c, Nat.lt_of_lt_of_le d hb.size⟩⟩
theorem pd_set_ne (Qs : List Pr) (k i : Nat) (y : Pr) (h : i ≠ k) : pd (Qs.set k y) i = pd Qs i := by
  simp only [pd, List.getD_eq_getElem?_getD, List.getElem?_set]; rw [if_neg (fun e => h e.symm)]
theorem pd_set_eq (Qs : List Pr) (k : Nat) (y : Pr) (h : k < Qs.length) : pd (Qs.set k y) k = y := by
  simp [pd, List.getD_eq_getElem?_getD, h]
theorem RowP.drew {W : World} {g : Nat} {Qs : List Pr} (h : RowP W g Qs) : RowP W.drew g Qs := h
theorem RowP.putX {W : World} {g k : Nat} {Qs : List Pr} (h : RowP W g Qs) (hk : k < Qs.length) (x : Pr) (G : Nat) :
    RowP ((((((W.setCell ⟨g, k * 6, none⟩ (.string x.name)).setCell ⟨g, k * 6 + 1, none⟩ (.int .i64 x.p.args)).setCell ⟨g, k * 6 + 2, none⟩ (.int .i64 x.p.reads)).setCell ⟨g, k * 6 + 3, none⟩ (.int .i64 x.p.writes)).setCell ⟨g, k * 6 + 4, none⟩ (.int .i64 x.p.locals)).setCell ⟨g, k * 6 + 5, none⟩ (.slice (some ⟨G, 0, none⟩) x.n (x.n + 2))) g (Qs.set k (cpP x G)) := by
  have := h.put hk (cpP x G)
  simp only [cpP] at this
  exact this
theorem LS.put {w W : World} {n k : Nat} {Ps Qs : List Pr} (h : LS w W n k Ps Qs) (hk : k < n) (x : Pr) (hx : pd Ps k = x) (G : Nat) (hG : KeysAt W (some ⟨G, 0, none⟩) x.L) (h1 : w.heap.size < G) (h2 : G < W.heap.size) :
    ∃ Qs', LS w (((((((W.setCell ⟨w.heap.size, k * 6, none⟩ (.string x.name)).setCell ⟨w.heap.size, k * 6 + 1, none⟩ (.int .i64 x.p.args)).setCell ⟨w.heap.size, k * 6 + 2, none⟩ (.int .i64 x.p.reads)).setCell ⟨w.heap.size, k * 6 + 3, none⟩ (.int .i64 x.p.writes)).setCell ⟨w.heap.size, k * 6 + 4, none⟩ (.int .i64 x.p.locals)).setCell ⟨w.heap.size, k * 6 + 5, none⟩ (.slice (some ⟨G, 0, none⟩) x.n (x.n + 2))).drew) n (k + 1) Ps Qs' := by
  have hkl : k < Qs.length := by have := h.len; omega
  have hR := (h.row.putX hkl x G).drew
  have hO : OneB w.heap.size W (((((((W.setCell ⟨w.heap.size, k * 6, none⟩ (.string x.name)).setCell ⟨w.heap.size, k * 6 + 1, none⟩ (.int .i64 x.p.args)).setCell ⟨w.heap.size, k * 6 + 2, none⟩ (.int .i64 x.p.reads)).setCell ⟨w.heap.size, k * 6 + 3, none⟩ (.int .i64 x.p.writes)).setCell ⟨w.heap.size, k * 6 + 4, none⟩ (.int .i64 x.p.locals)).setCell ⟨w.heap.size, k * 6 + 5, none⟩ (.slice (some ⟨G, 0, none⟩) x.n (x.n + 2))).drew) := ((((((OneB.refl _ W).set _ _).set _ _).set _ _).set _ _).set _ _).set _ _ |>.drew
  generalize (((((((W.setCell ⟨w.heap.size, k * 6, none⟩ (.string x.name)).setCell ⟨w.heap.size, k * 6 + 1, none⟩ (.int .i64 x.p.args)).setCell ⟨w.heap.size, k * 6 + 2, none⟩ (.int .i64 x.p.reads)).setCell ⟨w.heap.size, k * 6 + 3, none⟩ (.int .i64 x.p.writes)).setCell ⟨w.heap.size, k * 6 + 4, none⟩ (.int .i64 x.p.locals)).setCell ⟨w.heap.size, k * 6 + 5, none⟩ (.slice (some ⟨G, 0, none⟩) x.n (x.n + 2))).drew) = W' at *
  refine ⟨_, hR, by rw [List.length_set]; exact h.len, h.bel.trans hO.below, fun i hi => ?_⟩
  by_cases e : i = k
  · subst e
    refine ⟨G, by rw [pd_set_eq _ _ _ hkl, hx], ?_, h1, Nat.lt_of_lt_of_le h2 hO.size⟩
    rw [hx]
    exact hG.sameB (fun a ea => by cases ea; exact hO.block G (by omega))
  · obtain ⟨G', a1, a2, a3, a4⟩ := h.cop i (by omega)
    exact ⟨G', by rw [pd_set_ne _ _ _ _ e]; exact a1, a2.sameB (fun a ea => by cases ea; exact hO.block G' (by omega)), a3, Nat.lt_of_lt_of_le a4 hO.size⟩
def LibPostL (n : Nat) (Ps : List Pr) (e : Ending) (w' : World) : Prop := ∃ (g : Nat) (Qs : List Pr), e = .returned (.tuple #[.slice (some ⟨g, 0, none⟩) n (n + 1), .slice (some ⟨g, 0, none⟩) (n + 1) (n + 1)]) ∧ RowP w' g Qs ∧ Qs.length = n + 1 ∧ (pd Qs n).name = behind ∧
  ∀ i, i < n → ∃ G, pd Qs i = cpP (pd Ps i) G ∧ KeysAt w' (some ⟨G, 0, none⟩) (pd Ps i).L

end Go.Proofs.YtkmafpfldnapjaaGreatDoor
/-
  WHAT STANDS WHILE layer 4's lent LAYS A LIBRARY.
-/
namespace Go.Proofs.YtkmafpfldnapjaaGreatDoor
open Go.RowKit Go.Sort

def padP (i : Nat) : Pr := ⟨⟨#[45]⟩, ⟨-(i : Int), 0, 0, 0⟩, none, 0, 0, []⟩
def cp3 (x : Pr) (G : Nat) : Pr := ⟨x.name, x.p, some ⟨G, 0, none⟩, x.n, x.n + 3, x.L⟩
structure Pads (n : Nat) (L M : List K) : Prop where
  len : M.length = n + 3
  take : M.take n = L
  pad : ∀ j, n ≤ j → j < n + 3 → cd M j = (-7, (j : Int))
/-- a procedure that was laid -/
def CopL (W : World) (B : Nat) (x y : Pr) : Prop := (x.ao = none ∧ y = x) ∨ ∃ G M, y = cp3 x G ∧ RowK W G M ∧ Pads x.n x.L M ∧ B < G
theorem CopL.kept {W W' : World} {B : Nat} {x y : Pr} (h : CopL W B x y) (hb : Below W.heap.size W W') : CopL W' B x y := by
  rcases h with h | ⟨G, M, a, b, c, d⟩
  · exact .inl h
  · exact .inr ⟨G, M, a, b.kept hb, c, d⟩
theorem CopL.one {W W' : World} {B : Nat} {x y : Pr} (h : CopL W B x y) (hb : OneB B W W') : CopL W' B x y := by
  rcases h with h | ⟨G, M, a, b, c, d⟩
  · exact .inl h
  · exact .inr ⟨G, M, a, (hb.block G (by omega)).trans b, c, d⟩
theorem CopL.other {W W' : World} {B g : Nat} {x y : Pr} (h : CopL W B x y) (hb : Below g W W') (hl : ∀ G M, y = cp3 x G → RowK W G M → G < g) : CopL W' B x y := by
  rcases h with h | ⟨G, M, a, b, c, d⟩
  · exact .inl h
  · exact .inr ⟨G, M, a, b.below hb (hl G M a b), c, d⟩
structure L1 (w W : World) (n k : Nat) (Qs : List Pr) : Prop where
  row : RowP W w.heap.size Qs
  len : Qs.length = n + 3
  bel : Below w.heap.size w W
  pad : ∀ i, i < k → pd Qs i = padP i
theorem L1.put {w W : World} {n k : Nat} {Qs : List Pr} (h : L1 w W n k Qs) (hk : k < n + 3) :
    ∃ Qs', L1 w ((((((W.setCell ⟨w.heap.size, k * 6, none⟩ (.string ⟨#[45]⟩)).setCell ⟨w.heap.size, k * 6 + 1, none⟩ (.int .i64 (-(k : Int)))).setCell ⟨w.heap.size, k * 6 + 2, none⟩ (.int .i64 0)).setCell ⟨w.heap.size, k * 6 + 3, none⟩ (.int .i64 0)).setCell ⟨w.heap.size, k * 6 + 4, none⟩ (.int .i64 0)).setCell ⟨w.heap.size, k * 6 + 5, none⟩ (.slice none 0 0)) n (k + 1) Qs' := by
  have hkl : k < Qs.length := by have := h.len; omega
  have hR := h.row.put hkl (padP k)
  simp only [padP] at hR
  have hO : OneB w.heap.size W ((((((W.setCell ⟨w.heap.size, k * 6, none⟩ (.string ⟨#[45]⟩)).setCell ⟨w.heap.size, k * 6 + 1, none⟩ (.int .i64 (-(k : Int)))).setCell ⟨w.heap.size, k * 6 + 2, none⟩ (.int .i64 0)).setCell ⟨w.heap.size, k * 6 + 3, none⟩ (.int .i64 0)).setCell ⟨w.heap.size, k * 6 + 4, none⟩ (.int .i64 0)).setCell ⟨w.heap.size, k * 6 + 5, none⟩ (.slice none 0 0)) := ((((((OneB.refl _ W).set _ _).set _ _).set _ _).set _ _).set _ _).set _ _
  refine ⟨_, hR, by rw [List.length_set]; exact h.len, h.bel.trans hO.below, fun i hi => ?_⟩
  by_cases e : i = k
  · subst e; rw [pd_set_eq _ _ _ hkl]; rfl
  · rw [pd_set_ne _ _ _ _ e]; exact h.pad i (by omega)
structure LT (w W : World) (n k : Nat) (Ps Qs : List Pr) : Prop where
  row : RowP W w.heap.size Qs
  len : Qs.length = n + 3
  bel : Below w.heap.size w W
  pad : ∀ i, n ≤ i → i < n + 3 → pd Qs i = padP i
  cop : ∀ i, i < k → CopL W w.heap.size (pd Ps i) (pd Qs i)
theorem L1.fin {w W : World} {n : Nat} {Ps Qs : List Pr} (h : L1 w W n (n + 3) Qs) : LT w W n 0 Ps Qs := ⟨h.row, h.len, h.bel, fun i _ hi => h.pad i hi, fun i hi => by omega⟩
theorem LT.kept {w W W' : World} {n k : Nat} {Ps Qs : List Pr} (h : LT w W n k Ps Qs) (hb : Below W.heap.size W W') : LT w W' n k Ps Qs :=
  ⟨h.row.kept hb, h.len, h.bel.trans (hb.mono h.bel.size), h.pad, fun i hi => (h.cop i hi).kept hb⟩
/-- the whole procedure is stored -/
theorem LT.put {w W : World} {n k : Nat} {Ps Qs : List Pr} (h : LT w W n k Ps Qs) (hk : k < n) (x : Pr) :
    LT w ((((((W.setCell ⟨w.heap.size, k * 6, none⟩ (.string x.name)).setCell ⟨w.heap.size, k * 6 + 1, none⟩ (.int .i64 x.p.args)).setCell ⟨w.heap.size, k * 6 + 2, none⟩ (.int .i64 x.p.reads)).setCell ⟨w.heap.size, k * 6 + 3, none⟩ (.int .i64 x.p.writes)).setCell ⟨w.heap.size, k * 6 + 4, none⟩ (.int .i64 x.p.locals)).setCell ⟨w.heap.size, k * 6 + 5, none⟩ (.slice x.ao x.n x.cap)) n k Ps (Qs.set k x) := by
  have hkl : k < Qs.length := by have := h.len; omega
  have hR := h.row.put hkl x
  have hO : OneB w.heap.size W ((((((W.setCell ⟨w.heap.size, k * 6, none⟩ (.string x.name)).setCell ⟨w.heap.size, k * 6 + 1, none⟩ (.int .i64 x.p.args)).setCell ⟨w.heap.size, k * 6 + 2, none⟩ (.int .i64 x.p.reads)).setCell ⟨w.heap.size, k * 6 + 3, none⟩ (.int .i64 x.p.writes)).setCell ⟨w.heap.size, k * 6 + 4, none⟩ (.int .i64 x.p.locals)).setCell ⟨w.heap.size, k * 6 + 5, none⟩ (.slice x.ao x.n x.cap)) := ((((((OneB.refl _ W).set _ _).set _ _).set _ _).set _ _).set _ _).set _ _
  refine ⟨hR, by rw [List.length_set]; exact h.len, h.bel.trans hO.below, fun i hi h3 => ?_, fun i hi => ?_⟩
  · rw [pd_set_ne _ _ _ _ (by omega)]; exact h.pad i hi h3
  · rw [pd_set_ne _ _ _ _ (by omega)]; exact (h.cop i hi).one hO
/-- its code was nil -/
theorem LT.nil {w W : World} {n k : Nat} {Ps Qs : List Pr} (h : LT w W n k Ps Qs) (hx : (pd Ps k).ao = none) (hq : pd Qs k = pd Ps k) : LT w W n (k + 1) Ps Qs := by
  refine ⟨h.row, h.len, h.bel, h.pad, fun i hi => ?_⟩
  by_cases e : i = k
  · subst e; exact .inl ⟨hx, hq⟩
  · exact h.cop i (by omega)
theorem prcs_code : ∀ (Qs : List Pr) (i : Nat) (ao : Option Addr) (n c : Nat), i < Qs.length → (prcs Qs).set (i * 6 + 5) (.slice ao n c) = prcs (Qs.set i { pd Qs i with ao := ao, n := n, cap := c })
  | [], i, _, _, _, h => by simp at h
  | x :: Qs, 0, _, _, _, _ => by
    simp only [List.set_cons_zero, prcs, prc, List.cons_append, List.nil_append, Nat.zero_mul, Nat.zero_add, List.set_cons_succ]
    rfl
  | x :: Qs, i + 1, ao, n, c, h => by
    have ih := prcs_code Qs i ao n c (by simp at h; omega)
    rw [show (i + 1) * 6 + 5 = (i * 6 + 5) + 1 + 1 + 1 + 1 + 1 + 1 by omega]
    have e : pd (x :: Qs) (i + 1) = pd Qs i := by simp [pd]
    simp only [List.set_cons_succ, prcs, prc, List.cons_append, List.nil_append, ih, e]
/-- its code lies in a row of its own -/
theorem LT.code {w W : World} {n k : Nat} {Ps Qs : List Pr} (h : LT w W n k Ps Qs) (hk : k < n) (x : Pr) (hx : pd Ps k = x) (hq : pd Qs k = x) (G : Nat) (M : List K) (hG : RowK W G M) (hp : Pads x.n x.L M) (h1 : w.heap.size < G) :
    ∃ Qs', LT w (W.setCell ⟨w.heap.size, k * 6 + 5, none⟩ (.slice (some ⟨G, 0, none⟩) x.n (x.n + 3))) n (k + 1) Ps Qs' := by
  have hkl : k < Qs.length := by have := h.len; omega
  have hO := (OneB.refl w.heap.size W).set (k * 6 + 5) (.slice (some ⟨G, 0, none⟩) x.n (x.n + 3))
  have hc := prcs_code Qs k (some ⟨G, 0, none⟩) x.n (x.n + 3) hkl
  rw [hq] at hc
  have hR : RowP (W.setCell ⟨w.heap.size, k * 6 + 5, none⟩ (.slice (some ⟨G, 0, none⟩) x.n (x.n + 3))) w.heap.size (Qs.set k (cp3 x G)) := by
    have h1 := heap_setCell_same W w.heap.size (k * 6 + 5) _ _ (.slice (some ⟨G, 0, none⟩) x.n (x.n + 3)) h.row
    unfold RowP
    rw [h1, show prcs (Qs.set k (cp3 x G)) = _ from hc.symm]
    simp
  refine ⟨_, hR, by rw [List.length_set]; exact h.len, h.bel.trans hO.below, fun i hi h3 => ?_, fun i hi => ?_⟩
  · rw [pd_set_ne _ _ _ _ (by omega)]; exact h.pad i hi h3
  · by_cases e : i = k
    · subst e
      rw [pd_set_eq _ _ _ hkl, hx]
      exact .inr ⟨G, M, rfl, (hO.block G (by omega)).trans hG, hp, h1⟩
    · rw [pd_set_ne _ _ _ _ e]; exact (h.cop i (by omega)).one hO
/-- a row of code while it is written full -/
structure KP (W : World) (G c k : Nat) (M : List K) : Prop where
  row : RowK W G M
  len : M.length = c
  pad : ∀ j, j < k → cd M j = (-7, (j : Int))
theorem cks_put : ∀ (M : List K) (i : Nat) (x y : Int), i < M.length → ((cks M).set (i * 2) (.int .i64 x)).set (i * 2 + 1) (.int .i64 y) = cks (M.set i (x, y))
  | [], i, x, y, h => by simp at h
  | k :: M, 0, x, y, _ => by simp [cks]
  | k :: M, i + 1, x, y, h => by
    have ih := cks_put M i x y (by simpa using h)
    rw [show (i + 1) * 2 = i * 2 + 1 + 1 by omega, show i * 2 + 1 + 1 + 1 = (i * 2 + 1) + 1 + 1 by omega]
    simp only [cks, List.set_cons_succ, ih]
theorem cd_set_ne (M : List K) (k i : Nat) (y : K) (h : i ≠ k) : cd (M.set k y) i = cd M i := by
  simp only [cd, List.getD_eq_getElem?_getD, List.getElem?_set]; rw [if_neg (fun e => h e.symm)]
theorem cd_set_eq (M : List K) (k : Nat) (y : K) (h : k < M.length) : cd (M.set k y) k = y := by
  simp [cd, List.getD_eq_getElem?_getD, h]
theorem KP.put {W : World} {G c k : Nat} {M : List K} (h : KP W G c k M) (hk : k < c) :
    KP ((W.setCell ⟨G, k * 2, none⟩ (.int .i64 (-7))).setCell ⟨G, k * 2 + 1, none⟩ (.int .i64 (k : Int))) G c (k + 1) (M.set k (-7, (k : Int))) := by
  have hkl : k < M.length := by have := h.len; omega
  have h1 := heap_setCell_same W G (k * 2) _ _ (.int .i64 (-7)) h.row
  have h2 := heap_setCell_same _ G (k * 2 + 1) _ _ (.int .i64 (k : Int)) h1
  refine ⟨?_, by rw [List.length_set]; exact h.len, fun j hj => ?_⟩
  · unfold RowK
    rw [h2, ← cks_put M k (-7) (k : Int) hkl]
    simp
  · by_cases e : j = k
    · subst e; rw [cd_set_eq _ _ _ hkl]
    · rw [cd_set_ne _ _ _ _ e]; exact h.pad j (by omega)
theorem KP.pads {W : World} {G n : Nat} {L M : List K} (h : KP W G (n + 3) (n + 3) M) (hn : n = L.length) : Pads n L (L ++ M.drop n) := by
  subst hn
  refine ⟨by simp [h.len], by simp, fun j h1 h2 => ?_⟩
  rw [← h.pad j h2]
  simp only [cd, List.getD_eq_getElem?_getD]
  rw [List.getElem?_append_right h1, List.getElem?_drop, show L.length + (j - L.length) = j by omega]
end Go.Proofs.YtkmafpfldnapjaaGreatDoor
