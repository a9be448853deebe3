/-
  THE WALK OF sameLibrary.
-/
import Derived.Test.YtkjmeknaedapjaaLCheck
import Derived.Test.YtkjmeknaedapjaaLSameP
namespace Go.Proofs.Ytkjmeknaedapjaa
open Go.RowKit Go.Sort

/-- two procedures alike -/
structure LikeP (x y : Pr) : Prop where
  name : x.name = y.name
  p : x.p = y.p
  n : x.n = y.n
  L : x.L = y.L
set_option maxRecDepth 100000 in
set_option maxHeartbeats 2000000 in
theorem sameLibrary_eq (w : World) (a1 a2 : Option Addr) (n c1 c2 : Nat) (Qs Ps : List Pr) (h1 : ProcsAt w a1 Qs) (h2 : ProcsAt w a2 Ps) (hn : n = Ps.length) (hn1 : n = Qs.length) (hm : n ≤ 140737488351232)
    (hk : ∀ i, i < n → LikeP (pd Qs i) (pd Ps i) ∧ KeysAt w (pd Qs i).ao (pd Qs i).L ∧ KeysAt w (pd Ps i).ao (pd Ps i).L ∧ (pd Ps i).n = (pd Ps i).L.length ∧ (pd Ps i).n * 16 ≤ 140737488355328) :
    Calls Try.prog 8 #[.slice a1 n c1, .slice a2 n c2] w fun e w' => e = .returned (.bool true) ∧ ∃ q os, w' = grow (w.drewN q) os := by
  have H1 : Hid (ProcsAt w a1 Qs) := h1
  have H2 : Hid (ProcsAt w a2 Ps) := h2
  have HN : Hid (n = Ps.length) := hn
  have HN1 : Hid (n = Qs.length) := hn1
  have HK : Hid (∀ i, i < n → LikeP (pd Qs i) (pd Ps i) ∧ KeysAt w (pd Qs i).ao (pd Qs i).L ∧ KeysAt w (pd Ps i).ao (pd Ps i).L ∧ (pd Ps i).n = (pd Ps i).L.length ∧ (pd Ps i).n * 16 ≤ 140737488355328) := hk
  clear h1 h2 hn hn1 hk
  have mx := mixed
  go_enter Try.func8, Try.ntmps8
  go_wp2_with fail
  go_loopw [5] (fun x wr => ∃ k : Nat, k ≤ n ∧ x = .int .i64 (k : Int) ∧ Hid (Grew w wr)) (fun x _ => n - (intOf x).toNat)
  case atStart => exact ⟨0, by omega, rfl, Grew.refl _⟩
  case round =>
    obtain ⟨k, hk, rfl, HG⟩ := hrel
    by_cases hlt : k < n
    · obtain ⟨b1, o1, rfl, u0, u1, u2, u3, u4, u5⟩ := (H1.out.grew HG.out).get k (by have := HN1.out; omega)
      obtain ⟨b2, o2, rfl, v0, v1, v2, v3, v4, v5⟩ := (H2.out.grew HG.out).get k (by have := HN.out; omega)
      obtain ⟨lk, k1, k2, kl, kb⟩ := HK.out k hlt
      rw [lk.name] at u0
      rw [lk.p] at u1 u2 u3 u4
      rw [lk.n] at u5
      rw [lk.L] at k1
      generalize pd Ps k = y at *
      generalize (pd Qs k).ao = xa at *
      generalize (pd Qs k).cap = xc at *
      have HC : Hid (∀ m os, Calls Try.prog 28 #[pv y.p xa y.n xc, pv y.p y.ao y.n y.cap] (grow (wr.drewN m) os) fun e w' => e = .returned (.bool true) ∧ ∃ q os', w' = grow ((grow (wr.drewN m) os).drewN q) os') := fun m os =>
        sameProgram_eq _ y.p xa y.ao y.n xc y.cap y.L ((k1.grew HG.out).grew ⟨m, os, rfl⟩) ((k2.grew HG.out).grew ⟨m, os, rfl⟩) kl kb
      have gu0 : ∀ m os, (grow (wr.drewN m) os).cell? ⟨b1, o1 + k * 6, none⟩ = some (.string y.name) := fun m os => Grew.cell ⟨m, os, rfl⟩ u0
      have gu1 : ∀ m os, (grow (wr.drewN m) os).cell? ⟨b1, o1 + k * 6 + 1, none⟩ = some (.int .i64 y.p.args) := fun m os => Grew.cell ⟨m, os, rfl⟩ u1
      have gu2 : ∀ m os, (grow (wr.drewN m) os).cell? ⟨b1, o1 + k * 6 + 2, none⟩ = some (.int .i64 y.p.reads) := fun m os => Grew.cell ⟨m, os, rfl⟩ u2
      have gu3 : ∀ m os, (grow (wr.drewN m) os).cell? ⟨b1, o1 + k * 6 + 3, none⟩ = some (.int .i64 y.p.writes) := fun m os => Grew.cell ⟨m, os, rfl⟩ u3
      have gu4 : ∀ m os, (grow (wr.drewN m) os).cell? ⟨b1, o1 + k * 6 + 4, none⟩ = some (.int .i64 y.p.locals) := fun m os => Grew.cell ⟨m, os, rfl⟩ u4
      have gu5 : ∀ m os, (grow (wr.drewN m) os).cell? ⟨b1, o1 + k * 6 + 5, none⟩ = some (.slice xa y.n xc) := fun m os => Grew.cell ⟨m, os, rfl⟩ u5
      have gv0 : ∀ m os, (grow (wr.drewN m) os).cell? ⟨b2, o2 + k * 6, none⟩ = some (.string y.name) := fun m os => Grew.cell ⟨m, os, rfl⟩ v0
      have gv1 : ∀ m os, (grow (wr.drewN m) os).cell? ⟨b2, o2 + k * 6 + 1, none⟩ = some (.int .i64 y.p.args) := fun m os => Grew.cell ⟨m, os, rfl⟩ v1
      have gv2 : ∀ m os, (grow (wr.drewN m) os).cell? ⟨b2, o2 + k * 6 + 2, none⟩ = some (.int .i64 y.p.reads) := fun m os => Grew.cell ⟨m, os, rfl⟩ v2
      have gv3 : ∀ m os, (grow (wr.drewN m) os).cell? ⟨b2, o2 + k * 6 + 3, none⟩ = some (.int .i64 y.p.writes) := fun m os => Grew.cell ⟨m, os, rfl⟩ v3
      have gv4 : ∀ m os, (grow (wr.drewN m) os).cell? ⟨b2, o2 + k * 6 + 4, none⟩ = some (.int .i64 y.p.locals) := fun m os => Grew.cell ⟨m, os, rfl⟩ v4
      have gv5 : ∀ m os, (grow (wr.drewN m) os).cell? ⟨b2, o2 + k * 6 + 5, none⟩ = some (.slice y.ao y.n y.cap) := fun m os => Grew.cell ⟨m, os, rfl⟩ v5
      have hne : (y.name.toList != y.name.toList) = false := by simp
      clear u0 u1 u2 u3 u4 u5 v0 v1 v2 v3 v4 v5 lk k1 k2 kl kb
      go_wp2_with fail
      refine wp_region_quiet_grown mx (by kernel_rfl) ?_
      repeat (go_big_quiet_step ((go_at_call 28; exact Calls.grown_of (HC.out _ _))))
      refine wpQuiet_nil ?_
      intro _ hw'
      obtain ⟨⟨nq, osq⟩, hw''⟩ := hw'
      subst hw''
      have HG2 : Hid (Grew w (grow (wr.drewN nq) osq)) := HG.out.trans ⟨nq, osq, rfl⟩
      clear gu0 gu1 gu2 gu3 gu4 gu5 gv0 gv1 gv2 gv3 gv4 gv5 HC
      generalize grow (wr.drewN nq) osq = W2 at *
      go_wp2
      go_roundw
      case rel => exact ⟨k + 1, by omega, by go_num, HG2⟩
      case measure => simp [intOf]; omega
    · obtain rfl : k = n := by omega
      go_wp2
      go_ret
      exact ⟨rfl, HG.out⟩

end Go.Proofs.Ytkjmeknaedapjaa
