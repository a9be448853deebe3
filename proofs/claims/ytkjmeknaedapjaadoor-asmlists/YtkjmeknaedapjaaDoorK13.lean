import Derived.Test.YtkjmeknaedapjaaDoorK07
import Derived.Test.YtkjmeknaedapjaaDoorK12
import Derived.Deep.QuietTactic
/-
  THE WALK OF sameLibrary.
-/
namespace Go.Proofs.YtkjmeknaedapjaaDoor
open Go.RowKit Go.Sort

/-- two procedures alike -/
structure LikeP (x y : Pr) : Prop where
  name : x.name = y.name
  p : x.p = y.p
  n : x.n = y.n
  L : x.L = y.L
set_option maxRecDepth 100000 in
set_option maxHeartbeats 2000000 in
theorem sameLibrary_eq (w : World) (a1 a2 : Option Addr) (n c1 c2 : Nat) (Qs Ps : List Pr) (h1 : ProcsAt w a1 Qs) (h2 : ProcsAt w a2 Ps) (hn : n = Ps.length) (hn1 : n = Qs.length) (hm : n ≤ 140737488351232)
    (hk : ∀ i, i < n → LikeP (pd Qs i) (pd Ps i) ∧ KeysAt w (pd Qs i).ao (pd Qs i).L ∧ KeysAt w (pd Ps i).ao (pd Ps i).L ∧ (pd Ps i).n = (pd Ps i).L.length ∧ (pd Ps i).n * 16 ≤ 140737488355328) :
    Calls Tryd.prog 12 #[.slice a1 n c1, .slice a2 n c2] w fun e w' => e = .returned (.bool true) ∧ ∃ q os, w' = grow (w.drewN q) os := by
  have H1 : Hid (ProcsAt w a1 Qs) := h1
  have H2 : Hid (ProcsAt w a2 Ps) := h2
  have HN : Hid (n = Ps.length) := hn
  have HN1 : Hid (n = Qs.length) := hn1
  have HK : Hid (∀ i, i < n → LikeP (pd Qs i) (pd Ps i) ∧ KeysAt w (pd Qs i).ao (pd Qs i).L ∧ KeysAt w (pd Ps i).ao (pd Ps i).L ∧ (pd Ps i).n = (pd Ps i).L.length ∧ (pd Ps i).n * 16 ≤ 140737488355328) := hk
  clear h1 h2 hn hn1 hk
  have mx := mixed
  go_enter Tryd.func12, Tryd.ntmps12
  go_wp2_with fail
  go_loopw [5] (fun x wr => ∃ k : Nat, k ≤ n ∧ x = .int .i64 (k : Int) ∧ Hid (Grew w wr)) (fun x _ => n - (intOf x).toNat)
  case atStart => exact ⟨0, by omega, rfl, Grew.refl _⟩
  case round =>
    obtain ⟨k, hk, rfl, HG⟩ := hrel
    by_cases hlt : k < n
    · obtain ⟨b1, o1, rfl, u0, u1, u2, u3, u4, u5⟩ := (H1.out.grew HG.out).get k (by have := HN1.out; omega)
      obtain ⟨b2, o2, rfl, v0, v1, v2, v3, v4, v5⟩ := (H2.out.grew HG.out).get k (by have := HN.out; omega)
      obtain ⟨lk, k1, k2, kl, kb⟩ := HK.out k hlt
      rw [lk.name] at u0
      rw [lk.p] at u1 u2 u3 u4
      rw [lk.n] at u5
      rw [lk.L] at k1
      generalize pd Ps k = y at *
      generalize (pd Qs k).ao = xa at *
      generalize (pd Qs k).cap = xc at *
      have HC : Hid (∀ m os, Calls Tryd.prog 35 #[pv y.p xa y.n xc, pv y.p y.ao y.n y.cap] (grow (wr.drewN m) os) fun e w' => e = .returned (.bool true) ∧ ∃ q os', w' = grow ((grow (wr.drewN m) os).drewN q) os') := fun m os =>
        sameProgram_eq _ y.p xa y.ao y.n xc y.cap y.L ((k1.grew HG.out).grew ⟨m, os, rfl⟩) ((k2.grew HG.out).grew ⟨m, os, rfl⟩) kl kb
      have gu0 : ∀ m os, (grow (wr.drewN m) os).cell? ⟨b1, o1 + k * 6, none⟩ = some (.string y.name) := fun m os => Grew.cell ⟨m, os, rfl⟩ u0
      have gu1 : ∀ m os, (grow (wr.drewN m) os).cell? ⟨b1, o1 + k * 6 + 1, none⟩ = some (.int .i64 y.p.args) := fun m os => Grew.cell ⟨m, os, rfl⟩ u1
      have gu2 : ∀ m os, (grow (wr.drewN m) os).cell? ⟨b1, o1 + k * 6 + 2, none⟩ = some (.int .i64 y.p.reads) := fun m os => Grew.cell ⟨m, os, rfl⟩ u2
      have gu3 : ∀ m os, (grow (wr.drewN m) os).cell? ⟨b1, o1 + k * 6 + 3, none⟩ = some (.int .i64 y.p.writes) := fun m os => Grew.cell ⟨m, os, rfl⟩ u3
      have gu4 : ∀ m os, (grow (wr.drewN m) os).cell? ⟨b1, o1 + k * 6 + 4, none⟩ = some (.int .i64 y.p.locals) := fun m os => Grew.cell ⟨m, os, rfl⟩ u4
      have gu5 : ∀ m os, (grow (wr.drewN m) os).cell? ⟨b1, o1 + k * 6 + 5, none⟩ = some (.slice xa y.n xc) := fun m os => Grew.cell ⟨m, os, rfl⟩ u5
      have gv0 : ∀ m os, (grow (wr.drewN m) os).cell? ⟨b2, o2 + k * 6, none⟩ = some (.string y.name) := fun m os => Grew.cell ⟨m, os, rfl⟩ v0
      have gv1 : ∀ m os, (grow (wr.drewN m) os).cell? ⟨b2, o2 + k * 6 + 1, none⟩ = some (.int .i64 y.p.args) := fun m os => Grew.cell ⟨m, os, rfl⟩ v1
      have gv2 : ∀ m os, (grow (wr.drewN m) os).cell? ⟨b2, o2 + k * 6 + 2, none⟩ = some (.int .i64 y.p.reads) := fun m os => Grew.cell ⟨m, os, rfl⟩ v2
      have gv3 : ∀ m os, (grow (wr.drewN m) os).cell? ⟨b2, o2 + k * 6 + 3, none⟩ = some (.int .i64 y.p.writes) := fun m os => Grew.cell ⟨m, os, rfl⟩ v3
      have gv4 : ∀ m os, (grow (wr.drewN m) os).cell? ⟨b2, o2 + k * 6 + 4, none⟩ = some (.int .i64 y.p.locals) := fun m os => Grew.cell ⟨m, os, rfl⟩ v4
      have gv5 : ∀ m os, (grow (wr.drewN m) os).cell? ⟨b2, o2 + k * 6 + 5, none⟩ = some (.slice y.ao y.n y.cap) := fun m os => Grew.cell ⟨m, os, rfl⟩ v5
      have hne : (y.name.toList != y.name.toList) = false := by simp
      clear u0 u1 u2 u3 u4 u5 v0 v1 v2 v3 v4 v5 lk k1 k2 kl kb
      go_wp2_with fail
      refine wp_region_quiet_grown mx (by kernel_rfl) ?_
      repeat (go_big_quiet_step ((go_at_call 35; exact Calls.grown_of (HC.out _ _))))
      refine wpQuiet_nil ?_
      intro _ hw'
      obtain ⟨⟨nq, osq⟩, hw''⟩ := hw'
      subst hw''
      have HG2 : Hid (Grew w (grow (wr.drewN nq) osq)) := HG.out.trans ⟨nq, osq, rfl⟩
      clear gu0 gu1 gu2 gu3 gu4 gu5 gv0 gv1 gv2 gv3 gv4 gv5 HC
      generalize grow (wr.drewN nq) osq = W2 at *
      go_wp2
      go_roundw
      case rel => exact ⟨k + 1, by omega, by go_num, HG2⟩
      case measure => simp [intOf]; omega
    · obtain rfl : k = n := by omega
      go_wp2
      go_ret
      exact ⟨rfl, HG.out⟩

end Go.Proofs.YtkjmeknaedapjaaDoor
/-
  THE WALKS OF layer 4's sameCode, sameLib.
-/
namespace Go.Proofs.YtkjmeknaedapjaaDoor
open Go.RowKit Go.Sort

set_option maxHeartbeats 1000000 in
theorem sameCode_eq (w : World) (a1 a2 : Option Addr) (n c1 c2 : Nat) (L : List K) (h1 : KeysAt w a1 L) (h2 : KeysAt w a2 L) (hn : n = L.length) (hm : n * 16 ≤ 140737488355328) :
    Calls Tryd.prog 77 #[.slice a1 n c1, .slice a2 n c2] w fun e w' => e = .returned (.bool true) ∧ ∃ q os, w' = grow (w.drewN q) os := by
  have H1 : Hid (KeysAt w a1 L) := h1
  have H2 : Hid (KeysAt w a2 L) := h2
  have HN : Hid (n = L.length) := hn
  clear h1 h2 hn
  go_enter Tryd.func77, Tryd.ntmps77
  go_wp2_with fail
  go_loopw [5] (fun x wr => ∃ k : Nat, k ≤ n ∧ x = .int .i64 (k : Int) ∧ Hid (Grew w wr)) (fun x _ => n - (intOf x).toNat)
  case atStart => exact ⟨0, by omega, rfl, Grew.refl _⟩
  case round =>
    obtain ⟨k, hk, rfl, HG⟩ := hrel
    by_cases hlt : k < n
    · obtain ⟨b1, o1, rfl, c11, c12⟩ := (H1.out.grew HG.out).get k (by have := HN.out; omega)
      obtain ⟨b2, o2, rfl, c21, c22⟩ := (H2.out.grew HG.out).get k (by have := HN.out; omega)
      generalize cd L k = kk at *
      obtain ⟨t, r⟩ := kk
      simp only at c11 c12 c21 c22
      have hq := run_neSame t r
      have hgd := fun op x y => run_eqGuard op x y t r t r
      go_wp2_with fail
      go_quiet (fail)
      go_wp2
      go_roundw
      case rel => exact ⟨k + 1, by omega, by go_num, HG.out.drewN nq⟩
      case measure => simp [intOf]; omega
    · obtain rfl : k = n := by omega
      go_wp2
      go_ret
      exact ⟨rfl, HG.out⟩

set_option maxRecDepth 100000 in
set_option maxHeartbeats 2000000 in
theorem sameLib_eq (w : World) (a1 a2 : Option Addr) (n c1 c2 : Nat) (Qs Ps : List Pr) (h1 : ProcsAt w a1 Qs) (h2 : ProcsAt w a2 Ps) (hn : n = Ps.length) (hn1 : n = Qs.length) (hm : n ≤ 140737488351232)
    (hk : ∀ i, i < n → LikeP (pd Qs i) (pd Ps i) ∧ KeysAt w (pd Qs i).ao (pd Qs i).L ∧ KeysAt w (pd Ps i).ao (pd Ps i).L ∧ (pd Ps i).n = (pd Ps i).L.length ∧ (pd Ps i).n * 16 ≤ 140737488355328) :
    Calls Tryd.prog 50 #[.slice a1 n c1, .slice a2 n c2] w fun e w' => e = .returned (.bool true) ∧ ∃ q os, w' = grow (w.drewN q) os := by
  have H1 : Hid (ProcsAt w a1 Qs) := h1
  have H2 : Hid (ProcsAt w a2 Ps) := h2
  have HN : Hid (n = Ps.length) := hn
  have HN1 : Hid (n = Qs.length) := hn1
  have HK : Hid (∀ i, i < n → LikeP (pd Qs i) (pd Ps i) ∧ KeysAt w (pd Qs i).ao (pd Qs i).L ∧ KeysAt w (pd Ps i).ao (pd Ps i).L ∧ (pd Ps i).n = (pd Ps i).L.length ∧ (pd Ps i).n * 16 ≤ 140737488355328) := hk
  clear h1 h2 hn hn1 hk
  have mx := mixed
  go_enter Tryd.func50, Tryd.ntmps50
  go_wp2_with fail
  go_loopw [5] (fun x wr => ∃ k : Nat, k ≤ n ∧ x = .int .i64 (k : Int) ∧ Hid (Grew w wr)) (fun x _ => n - (intOf x).toNat)
  case atStart => exact ⟨0, by omega, rfl, Grew.refl _⟩
  case round =>
    obtain ⟨k, hk, rfl, HG⟩ := hrel
    by_cases hlt : k < n
    · obtain ⟨b1, o1, rfl, u0, u1, u2, u3, u4, u5⟩ := (H1.out.grew HG.out).get k (by have := HN1.out; omega)
      obtain ⟨b2, o2, rfl, v0, v1, v2, v3, v4, v5⟩ := (H2.out.grew HG.out).get k (by have := HN.out; omega)
      obtain ⟨lk, k1, k2, kl, kb⟩ := HK.out k hlt
      have HKL : Hid ((pd Ps k).n = (pd Ps k).L.length) := kl
      clear kl
      rw [lk.name] at u0
      rw [lk.p] at u1 u2 u3 u4
      rw [lk.n] at u5
      rw [lk.L] at k1
      generalize pd Ps k = y at *
      generalize (pd Qs k).ao = xa at *
      generalize (pd Qs k).cap = xc at *
      obtain ⟨⟨z1, z2, z3, z4⟩, hyp⟩ : ∃ z, z = y.p := ⟨_, rfl⟩
      rw [← hyp] at u1 u2 u3 u4 v1 v2 v3 v4
      simp only at u1 u2 u3 u4 v1 v2 v3 v4
      have GB : Grew wr (wr.alloc (.cells #[.int .i64 z1, .int .i64 z2, .int .i64 z3, .int .i64 z4, .slice xa y.n xc] 41)) := (Grew.refl _).alloc _
      have V1 := GB.cell v1
      have V2 := GB.cell v2
      have V3 := GB.cell v3
      have V4 := GB.cell v4
      have V5 := GB.cell v5
      clear GB
      have HG0 : Hid (Grew wr ((wr.alloc (.cells #[.int .i64 z1, .int .i64 z2, .int .i64 z3, .int .i64 z4, .slice xa y.n xc] 41)).alloc (.cells #[.int .i64 z1, .int .i64 z2, .int .i64 z3, .int .i64 z4, .slice y.ao y.n y.cap] 41))) := ((Grew.refl _).alloc _).alloc _
      have HX0 : Hid (PBox ((wr.alloc (.cells #[.int .i64 z1, .int .i64 z2, .int .i64 z3, .int .i64 z4, .slice xa y.n xc] 41)).alloc (.cells #[.int .i64 z1, .int .i64 z2, .int .i64 z3, .int .i64 z4, .slice y.ao y.n y.cap] 41)) wr.heap.size ⟨z1, z2, z3, z4⟩ xa y.n xc) := (PBox.new wr ⟨z1, z2, z3, z4⟩ xa y.n xc).kept ((Below.refl _ _).alloc (Nat.le_refl _) _)
      have HY0 : Hid (PBox ((wr.alloc (.cells #[.int .i64 z1, .int .i64 z2, .int .i64 z3, .int .i64 z4, .slice xa y.n xc] 41)).alloc (.cells #[.int .i64 z1, .int .i64 z2, .int .i64 z3, .int .i64 z4, .slice y.ao y.n y.cap] 41)) (wr.heap.size + 1) ⟨z1, z2, z3, z4⟩ y.ao y.n y.cap) := by
        have := PBox.new (wr.alloc (.cells #[.int .i64 z1, .int .i64 z2, .int .i64 z3, .int .i64 z4, .slice xa y.n xc] 41)) ⟨z1, z2, z3, z4⟩ y.ao y.n y.cap
        rw [World.size_alloc] at this
        exact this
      have K1 := k1.grew (HG.out.trans HG0.out)
      have K2 := k2.grew (HG.out.trans HG0.out)
      have U0 := HG0.out.cell u0
      have V0 := HG0.out.cell v0
      have HG := HG.out.trans HG0.out
      have HGn : Hid (Grew w ((wr.alloc (.cells #[.int .i64 z1, .int .i64 z2, .int .i64 z3, .int .i64 z4, .slice xa y.n xc] 41)).alloc (.cells #[.int .i64 z1, .int .i64 z2, .int .i64 z3, .int .i64 z4, .slice y.ao y.n y.cap] 41))) := HG
      go_upto_region 8 with fail
      generalize (wr.alloc (.cells #[.int .i64 z1, .int .i64 z2, .int .i64 z3, .int .i64 z4, .slice xa y.n xc] 41)).alloc (.cells #[.int .i64 z1, .int .i64 z2, .int .i64 z3, .int .i64 z4, .slice y.ao y.n y.cap] 41) = W1 at *
      generalize wr.heap.size = B1 at *
      have HC : Hid (∀ m os, Calls Tryd.prog 77 #[.slice xa y.n xc, .slice y.ao y.n y.cap] (grow (W1.drewN m) os) fun e w' => e = .returned (.bool true) ∧ ∃ q os', w' = grow ((grow (W1.drewN m) os).drewN q) os') := fun m os =>
        sameCode_eq _ xa y.ao y.n xc y.cap y.L (K1.grew ⟨m, os, rfl⟩) (K2.grew ⟨m, os, rfl⟩) HKL.out kb
      obtain ⟨p0, p1, p2, p3, p4⟩ := HX0.out.cells
      obtain ⟨r0, r1, r2, r3, r4⟩ := HY0.out.cells
      simp only at p0 p1 p2 p3 p4 r0 r1 r2 r3 r4
      have gu0 : ∀ m os, (grow (W1.drewN m) os).cell? ⟨b1, o1 + k * 6, none⟩ = some (.string y.name) := fun m os => Grew.cell ⟨m, os, rfl⟩ U0
      have gv0 : ∀ m os, (grow (W1.drewN m) os).cell? ⟨b2, o2 + k * 6, none⟩ = some (.string y.name) := fun m os => Grew.cell ⟨m, os, rfl⟩ V0
      have gp0 : ∀ m os, (grow (W1.drewN m) os).cell? ⟨B1, 0, none⟩ = some (.int .i64 z1) := fun m os => Grew.cell ⟨m, os, rfl⟩ p0
      have gp1 : ∀ m os, (grow (W1.drewN m) os).cell? ⟨B1, 1, none⟩ = some (.int .i64 z2) := fun m os => Grew.cell ⟨m, os, rfl⟩ p1
      have gp2 : ∀ m os, (grow (W1.drewN m) os).cell? ⟨B1, 2, none⟩ = some (.int .i64 z3) := fun m os => Grew.cell ⟨m, os, rfl⟩ p2
      have gp3 : ∀ m os, (grow (W1.drewN m) os).cell? ⟨B1, 3, none⟩ = some (.int .i64 z4) := fun m os => Grew.cell ⟨m, os, rfl⟩ p3
      have gp4 : ∀ m os, (grow (W1.drewN m) os).cell? ⟨B1, 4, none⟩ = some (.slice xa y.n xc) := fun m os => Grew.cell ⟨m, os, rfl⟩ p4
      have gr0 : ∀ m os, (grow (W1.drewN m) os).cell? ⟨B1 + 1, 0, none⟩ = some (.int .i64 z1) := fun m os => Grew.cell ⟨m, os, rfl⟩ r0
      have gr1 : ∀ m os, (grow (W1.drewN m) os).cell? ⟨B1 + 1, 1, none⟩ = some (.int .i64 z2) := fun m os => Grew.cell ⟨m, os, rfl⟩ r1
      have gr2 : ∀ m os, (grow (W1.drewN m) os).cell? ⟨B1 + 1, 2, none⟩ = some (.int .i64 z3) := fun m os => Grew.cell ⟨m, os, rfl⟩ r2
      have gr3 : ∀ m os, (grow (W1.drewN m) os).cell? ⟨B1 + 1, 3, none⟩ = some (.int .i64 z4) := fun m os => Grew.cell ⟨m, os, rfl⟩ r3
      have gr4 : ∀ m os, (grow (W1.drewN m) os).cell? ⟨B1 + 1, 4, none⟩ = some (.slice y.ao y.n y.cap) := fun m os => Grew.cell ⟨m, os, rfl⟩ r4
      have hne : (y.name.toList != y.name.toList) = false := by simp
      clear u0 u1 u2 u3 u4 u5 v0 v1 v2 v3 v4 v5 V1 V2 V3 V4 V5 lk k1 k2 HKL kb U0 V0 K1 K2 HG p0 p1 p2 p3 p4 r0 r1 r2 r3 r4 hyp HG0 HX0 HY0
      refine wp_region_quiet_grown mx (by kernel_rfl) ?_
      repeat (go_big_quiet_step ((go_at_call 77; exact Calls.grown_of (HC.out _ _))))
      refine wpQuiet_nil ?_
      intro _ hw'
      obtain ⟨⟨nq, osq⟩, hw''⟩ := hw'
      subst hw''
      have HG2 : Hid (Grew w (grow (W1.drewN nq) osq)) := HGn.out.trans ⟨nq, osq, rfl⟩
      clear gu0 gv0 gp0 gp1 gp2 gp3 gp4 gr0 gr1 gr2 gr3 gr4 HC
      generalize grow (W1.drewN nq) osq = W2 at *
      go_wp2
      go_roundw
      case rel => exact ⟨k + 1, by omega, by go_num, HG2⟩
      case measure => simp [intOf]; omega
    · obtain rfl : k = n := by omega
      go_wp2
      go_ret
      exact ⟨rfl, HG.out⟩

end Go.Proofs.YtkjmeknaedapjaaDoor
/-
  THE WALKS OF THE DOCUMENT'S Name, Check.
-/
namespace Go.Proofs.YtkjmeknaedapjaaDoor
open Go.RowKit Go.Sort

theorem let_iff (c : Int) : letB c = true ↔ (97 ≤ c ∧ c ≤ 122) ∨ (65 ≤ c ∧ c ≤ 90) := by simp [letB]
theorem dig_iff (c : Int) : digB c = true ↔ 48 ≤ c ∧ c ≤ 57 := by simp [digB]
set_option maxHeartbeats 2000000 in
theorem refName_any (w : World) (s : ByteArray) (hs : s.size ≤ 281474976710656) : Calls Tryd.prog 59 #[.string s] w fun e w' => e = .returned (.bool (nameB s)) ∧ w' = w := by
  by_cases h1 : s.size < 1
  · have HG : Hid (nameB s = false) := by show nameB s = false; unfold nameB; rw [decide_eq_false (by omega), Bool.false_and, Bool.false_and]
    have h1' : (s.size : Int) < 1 := by omega
    go_enter Tryd.func59, Tryd.ntmps59
    go_wp2
    go_ret
    exact ⟨by rw [HG.out]; rfl, rfl⟩
  · have h1' : ¬ (s.size : Int) < 1 := by omega
    by_cases h2 : 31 < s.size
    · have HG : Hid (nameB s = false) := by show nameB s = false; unfold nameB; rw [decide_eq_false (show ¬ s.size ≤ 31 by omega), Bool.and_false, Bool.false_and]
      have h2' : (31 : Int) < (s.size : Int) := by omega
      go_enter Tryd.func59, Tryd.ntmps59
      go_wp2
      go_ret
      exact ⟨by rw [HG.out]; rfl, rfl⟩
    · have h2' : ¬ (31 : Int) < (s.size : Int) := by omega
      have hN : Hid (nameB s = goodN s s.size) := by show nameB s = _; unfold nameB; rw [decide_eq_true (show 0 < s.size by omega), decide_eq_true (show s.size ≤ 31 by omega)]; rfl
      go_enter Tryd.func59, Tryd.ntmps59
      go_wp2
      go_loop [3] (fun x => ∃ k : Nat, k ≤ s.size ∧ x = .int .i64 (k : Int) ∧ Hid (goodN s k = true)) (fun x => s.size - (intOf x).toNat)
      case atStart => exact ⟨0, Nat.zero_le _, rfl, rfl⟩
      case round =>
        obtain ⟨k, hk, rfl, HA⟩ := hrel
        by_cases hlt : k < s.size
        · have HC := chs_at s k hlt
          have HF : Hid (chB k (chs s k) = false → nameB s = false) := fun h => by rw [hN.out, goodN_false h hlt]
          have HT : Hid (chB k (chs s k) = true → goodN s (k + 1) = true) := fun h => by unfold goodN; rw [HA.out, h]; rfl
          generalize chs s k = c at *
          have hcase : (97 ≤ c ∧ c ≤ 122) ∨ (¬ 97 ≤ c ∧ 65 ≤ c ∧ c ≤ 90) ∨ (97 ≤ c ∧ ¬ c ≤ 122 ∧ 65 ≤ c ∧ ¬ c ≤ 90) ∨ (¬ 97 ≤ c ∧ 65 ≤ c ∧ ¬ c ≤ 90) ∨ (¬ 97 ≤ c ∧ ¬ 65 ≤ c) := by omega
          rcases hcase with ⟨c1, c2⟩ | ⟨c1, c2, c3⟩ | hno
          · have HG : Hid (goodN s (k + 1) = true) := HT.out (by unfold chB; rw [(let_iff c).2 (.inl ⟨c1, c2⟩)]; rfl)
            go_wp2
            go_round
            case rel => exact ⟨k + 1, by omega, by go_num, HG⟩
            case measure => simp [intOf]; omega
          · have HG : Hid (goodN s (k + 1) = true) := HT.out (by unfold chB; rw [(let_iff c).2 (.inr ⟨c2, c3⟩)]; rfl)
            go_wp2
            go_round
            case rel => exact ⟨k + 1, by omega, by go_num, HG⟩
            case measure => simp [intOf]; omega
          · have hl : letB c = false := by
              cases e : letB c with
              | false => rfl
              | true => rw [let_iff] at e; omega
            by_cases h0 : k = 0
            · have HG : Hid (nameB s = false) := HF.out (by unfold chB; rw [hl, h0]; rfl)
              have h0' : ((k : Int) == 0) = true := by rw [h0]; rfl
              clear h0 hl
              rcases hno with ⟨c1, c2, c3, c4⟩ | ⟨c1, c2, c3⟩ | ⟨c1, c2⟩ <;>
              (go_wp2
               go_ret
               exact ⟨by rw [HG.out]; rfl, rfl⟩)
            · have h0' : ((k : Int) == 0) = false := by simp; omega
              by_cases h95 : c = 95
              · have HG : Hid (goodN s (k + 1) = true) := HT.out (by unfold chB; rw [hl]; simp [h0, h95])
                have h95' : (c != 95) = false := by simp [h95]
                clear h0 hl h95
                rcases hno with ⟨c1, c2, c3, c4⟩ | ⟨c1, c2, c3⟩ | ⟨c1, c2⟩ <;>
                (go_wp2
                 go_round
                 case rel => exact ⟨k + 1, by omega, by go_num, HG⟩
                 case measure => simp [intOf]; omega)
              · have h95' : (c != 95) = true := by simpa using h95
                by_cases h48 : c < 48
                · have HG : Hid (nameB s = false) := HF.out (by
                    have hd : digB c = false := by
                      cases e : digB c with
                      | false => rfl
                      | true => rw [dig_iff] at e; omega
                    unfold chB; rw [hl, hd]; simp [h95])
                  clear h0 hl h95
                  rcases hno with ⟨c1, c2, c3, c4⟩ | ⟨c1, c2, c3⟩ | ⟨c1, c2⟩ <;>
                  (go_wp2
                   go_ret
                   exact ⟨by rw [HG.out]; rfl, rfl⟩)
                · by_cases h57 : 57 < c
                  · have HG : Hid (nameB s = false) := HF.out (by
                      have hd : digB c = false := by
                        cases e : digB c with
                        | false => rfl
                        | true => rw [dig_iff] at e; omega
                      unfold chB; rw [hl, hd]; simp [h95])
                    clear h0 hl h95
                    rcases hno with ⟨c1, c2, c3, c4⟩ | ⟨c1, c2, c3⟩ | ⟨c1, c2⟩ <;>
                    (go_wp2
                     go_ret
                     exact ⟨by rw [HG.out]; rfl, rfl⟩)
                  · have HG : Hid (goodN s (k + 1) = true) := HT.out (by unfold chB; rw [hl, (dig_iff c).2 (by omega)]; simp [h0])
                    clear h0 hl h95
                    rcases hno with ⟨c1, c2, c3, c4⟩ | ⟨c1, c2, c3⟩ | ⟨c1, c2⟩ <;>
                    (go_wp2
                     go_round
                     case rel => exact ⟨k + 1, by omega, by go_num, HG⟩
                     case measure => simp [intOf]; omega)
        · obtain rfl : k = s.size := by omega
          have HG : Hid (nameB s = true) := by rw [hN.out, HA.out]; rfl
          go_wp2
          go_ret
          exact ⟨by rw [HG.out]; rfl, rfl⟩

set_option maxRecDepth 100000 in
set_option maxHeartbeats 2000000 in
theorem refCheck_any (w : World) (ao : Option Addr) (n cap : Nat) (Ps : List Pr) (h : LibAt w ao Ps) (hn : n = Ps.length) (hm : n ≤ 140737488351232) :
    Calls Tryd.prog 31 #[.slice ao n cap] w fun e w' => e = .returned (.tuple #[.int .i64 ((checkN Ps).1 : Int), .int .i64 (checkN Ps).2]) ∧ Below w.heap.size w w' := by
  have H : Hid (LibAt w ao Ps) := h
  have HN : Hid (n = Ps.length) := hn
  clear h hn
  by_cases h64 : 64 < n
  · have HV : Hid (checkN Ps = (0, 36)) := by show checkN Ps = (0, 36); unfold checkN; rw [if_pos (by have := HN.out; omega)]
    go_enter Tryd.func31, Tryd.ntmps31
    go_wp2
    go_ret2
    exact ⟨by rw [HV.out]; rfl, Below.refl _ _⟩
  · go_enter Tryd.func31, Tryd.ntmps31
    go_wp2
    go_loopw [4] (fun x wr => ∃ k : Nat, k ≤ n ∧ x = .int .i64 (k : Int) ∧ Hid (∀ i, i < k → chkOne Ps i = 0) ∧ Hid (Below w.heap.size w wr)) (fun x _ => n - (intOf x).toNat)
    case atStart => exact ⟨0, Nat.zero_le _, rfl, fun i hi => absurd hi (Nat.not_lt_zero i), Below.refl _ _⟩
    case round =>
      obtain ⟨k, hk, rfl, HA, HB⟩ := hrel
      by_cases hlt : k < n
      · have hlt' : k < Ps.length := by have := HN.out; omega
        obtain ⟨b, off, e, c0, c1, c2, c3, c4, c5⟩ := (H.out.at_.kept HB.out).get k hlt'
        have HS : Hid (chkOne Ps k ≠ 0 → checkN Ps = (k, chkOne Ps k)) := fun h => checkN_stop (by have := HN.out; omega) HA.out h hlt'
        have HF : Hid ((nameB (pd Ps k).name = false ∨ hasB (Ps.take k) (pd Ps k).name = true) → chkOne Ps k = 35) := chkOne_bad
        have HT : Hid (nameB (pd Ps k).name = true → hasB (Ps.take k) (pd Ps k).name = false → chkOne Ps k = verifyN (pd Ps k).p (pd Ps k).L) := chkOne_good
        have HO : Hid (PrOK wr (pd Ps k)) := (H.out.ok _ (pd_mem hlt')).kept HB.out
        have HAt : Hid (ProcsAt wr ao Ps) := H.out.at_.kept HB.out
        subst e
        have HX : Hid (pd Ps k = pd Ps k) := rfl
        generalize hx : pd Ps k = x at *
        clear hx HX
        cases hnm : nameB x.name with
        | false =>
          have HV : Hid (checkN Ps = (k, 35)) := by
            have e := HF.out (.inl hnm)
            have := HS.out (by rw [e]; decide)
            rw [e] at this; exact this
          go_wp2_with fail
          refine (refName_any wr x.name (by have := HO.out.str; omega)).mono ?_
          rintro e w2 ⟨rfl, rfl⟩
          rw [hnm]
          go_wp2
          go_ret2
          exact ⟨by rw [HV.out]; rfl, HB.out⟩
        | true =>
          go_wp2_with fail
          refine (refName_any wr x.name (by have := HO.out.str; omega)).mono ?_
          rintro e w2 ⟨rfl, rfl⟩
          rw [hnm]
          go_wp2_with fail
          generalize w2 = wq at *
          go_loopw [5] (fun y wr => ∃ j : Nat, j ≤ k ∧ y = .int .i64 (j : Int) ∧ Hid (hasB (Ps.take j) x.name = false) ∧ ∃ q, wr = wq.drewN q) (fun y _ => k - (intOf y).toNat)
          case atStart => exact ⟨0, by omega, rfl, rfl, 0, rfl⟩
          case round =>
            obtain ⟨j, hj, rfl, HJ, q, rfl⟩ := hrel
            by_cases hjk : j < k
            · have hjl : j < Ps.length := by have := HN.out; omega
              obtain ⟨b', off', e, d0, _⟩ := HAt.out.get j hjl
              cases e
              have HT2 : Hid (hasB (Ps.take (j + 1)) x.name = (hasB (Ps.take j) x.name || ((pd Ps j).name.toList == x.name.toList))) := hasB_take hjl
              have HS2 : Hid (((pd Ps j).name.toList == x.name.toList) = true → hasB (Ps.take k) x.name = true) := fun h => hasB_at (k := j) (by rw [List.length_take]; omega) (by rw [pd_takeD Ps j k hjk]; exact h)
              generalize (pd Ps j).name = yn at *
              cases hq : yn.toList == x.name.toList with
              | true =>
                have HV : Hid (checkN Ps = (k, 35)) := by
                  have e := HF.out (.inr (HS2.out hq))
                  have := HS.out (by rw [e]; decide)
                  rw [e] at this; exact this
                go_wp2_with fail
                go_quiet (fail)
                go_wp2
                go_ret2
                exact ⟨by rw [HV.out]; rfl, HB.out.trans ((below_drewK _ wq q).trans (below_drewK _ _ nq))⟩
              | false =>
                have HJ2 : Hid (hasB (Ps.take (j + 1)) x.name = false) := by rw [HT2.out, HJ.out, hq]; rfl
                go_wp2_with fail
                go_quiet (fail)
                go_wp2
                go_roundw
                case rel => exact ⟨j + 1, by omega, by go_num, HJ2, q + nq, rfl⟩
                case measure => simp [intOf]; omega
            · obtain rfl : j = k := by omega
              have HV : Hid (chkOne Ps j = verifyN x.p x.L) := HT.out hnm HJ.out
              go_wp2_with fail
              refine (refVerify_any (wq.drewN q) x.p x.ao x.n x.cap x.L HO.out.ks HO.out.len).mono ?_
              rintro e W4 ⟨rfl, hb4⟩
              have HB4 : Hid (Below w.heap.size w W4) := (HB.out.trans (below_drewK _ wq q)).trans (hb4.mono HB.out.size)
              rw [← HV.out]
              clear hb4 HV
              generalize hce : chkOne Ps j = ce at *
              by_cases h0 : ce = 0
              · have HA2 : Hid (∀ i, i < j + 1 → chkOne Ps i = 0) := fun i hi => by
                  by_cases e : i = j
                  · rw [e, hce]; exact h0
                  · exact HA.out i (by omega)
                clear hce
                subst h0
                go_wp2
                go_roundw
                case rel => exact ⟨j + 1, by omega, by go_num, HA2, HB4⟩
                case measure => simp [intOf]; omega
              · have h0' : (ce != 0) = true := by simpa using h0
                have HV : Hid (checkN Ps = (j, ce)) := HS.out h0
                clear hce
                go_wp2
                go_ret2
                exact ⟨by rw [HV.out]; rfl, HB4.out⟩
      · obtain rfl : k = n := by omega
        have HV : Hid (checkN Ps = (0, 0)) := checkN_zero (by have := HN.out; omega) (by rw [← HN.out]; exact HA.out)
        go_wp2
        go_ret2
        exact ⟨by rw [HV.out]; rfl, HB.out⟩
end Go.Proofs.YtkjmeknaedapjaaDoor
