import Derived.Test.YtiiplikmoodfnaaGreatDoorKARasm
import Derived.Deep.QuietTactic
import Derived.Test.YtiiplikmoodfnaaGreatDoorKLOwnP
import Derived.Test.YtiiplikmoodfnaaGreatDoorKAErr
import Derived.Test.YtiiplikmoodfnaaGreatDoorKAFault
import Derived.Stop.Asserts
import Derived.Test.YtiiplikmoodfnaaGreatDoorKAJmpH
import Derived.Deep.DeepAppendRoom
/-
  THE WALKS OF layer 4's sameCode, sameLib.
-/
namespace Go.Proofs.YtiiplikmoodfnaaGreatDoor
open Go.RowKit Go.Sort

set_option maxHeartbeats 1000000 in
theorem sameCode_eq (w : World) (a1 a2 : Option Addr) (n c1 c2 : Nat) (L : List K) (h1 : KeysAt w a1 L) (h2 : KeysAt w a2 L) (hn : n = L.length) (hm : n * 16 ≤ 140737488355328) :
    Calls Tryz.prog 17 #[.slice a1 n c1, .slice a2 n c2] w fun e w' => e = .returned (.bool true) ∧ ∃ q os, w' = grow (w.drewN q) os := by
  have H1 : Hid (KeysAt w a1 L) := h1
  have H2 : Hid (KeysAt w a2 L) := h2
  have HN : Hid (n = L.length) := hn
  clear h1 h2 hn
  go_enter Tryz.func17, Tryz.ntmps17
  go_wp2_with fail
  go_loopw [5] (fun x wr => ∃ k : Nat, k ≤ n ∧ x = .int .i64 (k : Int) ∧ Hid (Grew w wr)) (fun x _ => n - (intOf x).toNat)
  case atStart => exact ⟨0, by omega, rfl, Grew.refl _⟩
  case round =>
    obtain ⟨k, hk, rfl, HG⟩ := hrel
    by_cases hlt : k < n
    · obtain ⟨b1, o1, rfl, c11, c12⟩ := (H1.out.grew HG.out).get k (by have := HN.out; omega)
      obtain ⟨b2, o2, rfl, c21, c22⟩ := (H2.out.grew HG.out).get k (by have := HN.out; omega)
      generalize cd L k = kk at *
      obtain ⟨t, r⟩ := kk
      simp only at c11 c12 c21 c22
      have hq := run_neSame t r
      have hgd := fun op x y => run_eqGuard op x y t r t r
      go_wp2_with fail
      go_quiet (fail)
      go_wp2
      go_roundw
      case rel => exact ⟨k + 1, by omega, by go_num, HG.out.drewN nq⟩
      case measure => simp [intOf]; omega
    · obtain rfl : k = n := by omega
      go_wp2
      go_ret
      exact ⟨rfl, HG.out⟩

set_option maxRecDepth 100000 in
set_option maxHeartbeats 2000000 in
theorem sameLib_eq (w : World) (a1 a2 : Option Addr) (n c1 c2 : Nat) (Qs Ps : List Pr) (h1 : ProcsAt w a1 Qs) (h2 : ProcsAt w a2 Ps) (hn : n = Ps.length) (hn1 : n = Qs.length) (hm : n ≤ 140737488351232)
    (hk : ∀ i, i < n → LikeP (pd Qs i) (pd Ps i) ∧ KeysAt w (pd Qs i).ao (pd Qs i).L ∧ KeysAt w (pd Ps i).ao (pd Ps i).L ∧ (pd Ps i).n = (pd Ps i).L.length ∧ (pd Ps i).n * 16 ≤ 140737488355328) :
    Calls Tryz.prog 7 #[.slice a1 n c1, .slice a2 n c2] w fun e w' => e = .returned (.bool true) ∧ ∃ q os, w' = grow (w.drewN q) os := by
  have H1 : Hid (ProcsAt w a1 Qs) := h1
  have H2 : Hid (ProcsAt w a2 Ps) := h2
  have HN : Hid (n = Ps.length) := hn
  have HN1 : Hid (n = Qs.length) := hn1
  have HK : Hid (∀ i, i < n → LikeP (pd Qs i) (pd Ps i) ∧ KeysAt w (pd Qs i).ao (pd Qs i).L ∧ KeysAt w (pd Ps i).ao (pd Ps i).L ∧ (pd Ps i).n = (pd Ps i).L.length ∧ (pd Ps i).n * 16 ≤ 140737488355328) := hk
  clear h1 h2 hn hn1 hk
  have mx := mixed
  go_enter Tryz.func7, Tryz.ntmps7
  go_wp2_with fail
  go_loopw [5] (fun x wr => ∃ k : Nat, k ≤ n ∧ x = .int .i64 (k : Int) ∧ Hid (Grew w wr)) (fun x _ => n - (intOf x).toNat)
  case atStart => exact ⟨0, by omega, rfl, Grew.refl _⟩
  case round =>
    obtain ⟨k, hk, rfl, HG⟩ := hrel
    by_cases hlt : k < n
    · obtain ⟨b1, o1, rfl, u0, u1, u2, u3, u4, u5⟩ := (H1.out.grew HG.out).get k (by have := HN1.out; omega)
      obtain ⟨b2, o2, rfl, v0, v1, v2, v3, v4, v5⟩ := (H2.out.grew HG.out).get k (by have := HN.out; omega)
      obtain ⟨lk, k1, k2, kl, kb⟩ := HK.out k hlt
      have HKL : Hid ((pd Ps k).n = (pd Ps k).L.length) := kl
      clear kl
      rw [lk.name] at u0
      rw [lk.p] at u1 u2 u3 u4
      rw [lk.n] at u5
      rw [lk.L] at k1
      generalize pd Ps k = y at *
      generalize (pd Qs k).ao = xa at *
      generalize (pd Qs k).cap = xc at *
      obtain ⟨⟨z1, z2, z3, z4⟩, hyp⟩ : ∃ z, z = y.p := ⟨_, rfl⟩
      rw [← hyp] at u1 u2 u3 u4 v1 v2 v3 v4
      simp only at u1 u2 u3 u4 v1 v2 v3 v4
      have GB : Grew wr (wr.alloc (.cells #[.int .i64 z1, .int .i64 z2, .int .i64 z3, .int .i64 z4, .slice xa y.n xc] 42)) := (Grew.refl _).alloc _
      have V1 := GB.cell v1
      have V2 := GB.cell v2
      have V3 := GB.cell v3
      have V4 := GB.cell v4
      have V5 := GB.cell v5
      clear GB
      have HG0 : Hid (Grew wr ((wr.alloc (.cells #[.int .i64 z1, .int .i64 z2, .int .i64 z3, .int .i64 z4, .slice xa y.n xc] 42)).alloc (.cells #[.int .i64 z1, .int .i64 z2, .int .i64 z3, .int .i64 z4, .slice y.ao y.n y.cap] 42))) := ((Grew.refl _).alloc _).alloc _
      have HX0 : Hid (PBox ((wr.alloc (.cells #[.int .i64 z1, .int .i64 z2, .int .i64 z3, .int .i64 z4, .slice xa y.n xc] 42)).alloc (.cells #[.int .i64 z1, .int .i64 z2, .int .i64 z3, .int .i64 z4, .slice y.ao y.n y.cap] 42)) wr.heap.size ⟨z1, z2, z3, z4⟩ xa y.n xc) := (PBox.new wr ⟨z1, z2, z3, z4⟩ xa y.n xc).kept ((Below.refl _ _).alloc (Nat.le_refl _) _)
      have HY0 : Hid (PBox ((wr.alloc (.cells #[.int .i64 z1, .int .i64 z2, .int .i64 z3, .int .i64 z4, .slice xa y.n xc] 42)).alloc (.cells #[.int .i64 z1, .int .i64 z2, .int .i64 z3, .int .i64 z4, .slice y.ao y.n y.cap] 42)) (wr.heap.size + 1) ⟨z1, z2, z3, z4⟩ y.ao y.n y.cap) := by
        have := PBox.new (wr.alloc (.cells #[.int .i64 z1, .int .i64 z2, .int .i64 z3, .int .i64 z4, .slice xa y.n xc] 42)) ⟨z1, z2, z3, z4⟩ y.ao y.n y.cap
        rw [World.size_alloc] at this
        exact this
      have K1 := k1.grew (HG.out.trans HG0.out)
      have K2 := k2.grew (HG.out.trans HG0.out)
      have U0 := HG0.out.cell u0
      have V0 := HG0.out.cell v0
      have HG := HG.out.trans HG0.out
      have HGn : Hid (Grew w ((wr.alloc (.cells #[.int .i64 z1, .int .i64 z2, .int .i64 z3, .int .i64 z4, .slice xa y.n xc] 42)).alloc (.cells #[.int .i64 z1, .int .i64 z2, .int .i64 z3, .int .i64 z4, .slice y.ao y.n y.cap] 42))) := HG
      go_upto_region 8 with fail
      generalize (wr.alloc (.cells #[.int .i64 z1, .int .i64 z2, .int .i64 z3, .int .i64 z4, .slice xa y.n xc] 42)).alloc (.cells #[.int .i64 z1, .int .i64 z2, .int .i64 z3, .int .i64 z4, .slice y.ao y.n y.cap] 42) = W1 at *
      generalize wr.heap.size = B1 at *
      have HC : Hid (∀ m os, Calls Tryz.prog 17 #[.slice xa y.n xc, .slice y.ao y.n y.cap] (grow (W1.drewN m) os) fun e w' => e = .returned (.bool true) ∧ ∃ q os', w' = grow ((grow (W1.drewN m) os).drewN q) os') := fun m os =>
        sameCode_eq _ xa y.ao y.n xc y.cap y.L (K1.grew ⟨m, os, rfl⟩) (K2.grew ⟨m, os, rfl⟩) HKL.out kb
      obtain ⟨p0, p1, p2, p3, p4⟩ := HX0.out.cells
      obtain ⟨r0, r1, r2, r3, r4⟩ := HY0.out.cells
      simp only at p0 p1 p2 p3 p4 r0 r1 r2 r3 r4
      have gu0 : ∀ m os, (grow (W1.drewN m) os).cell? ⟨b1, o1 + k * 6, none⟩ = some (.string y.name) := fun m os => Grew.cell ⟨m, os, rfl⟩ U0
      have gv0 : ∀ m os, (grow (W1.drewN m) os).cell? ⟨b2, o2 + k * 6, none⟩ = some (.string y.name) := fun m os => Grew.cell ⟨m, os, rfl⟩ V0
      have gp0 : ∀ m os, (grow (W1.drewN m) os).cell? ⟨B1, 0, none⟩ = some (.int .i64 z1) := fun m os => Grew.cell ⟨m, os, rfl⟩ p0
      have gp1 : ∀ m os, (grow (W1.drewN m) os).cell? ⟨B1, 1, none⟩ = some (.int .i64 z2) := fun m os => Grew.cell ⟨m, os, rfl⟩ p1
      have gp2 : ∀ m os, (grow (W1.drewN m) os).cell? ⟨B1, 2, none⟩ = some (.int .i64 z3) := fun m os => Grew.cell ⟨m, os, rfl⟩ p2
      have gp3 : ∀ m os, (grow (W1.drewN m) os).cell? ⟨B1, 3, none⟩ = some (.int .i64 z4) := fun m os => Grew.cell ⟨m, os, rfl⟩ p3
      have gp4 : ∀ m os, (grow (W1.drewN m) os).cell? ⟨B1, 4, none⟩ = some (.slice xa y.n xc) := fun m os => Grew.cell ⟨m, os, rfl⟩ p4
      have gr0 : ∀ m os, (grow (W1.drewN m) os).cell? ⟨B1 + 1, 0, none⟩ = some (.int .i64 z1) := fun m os => Grew.cell ⟨m, os, rfl⟩ r0
      have gr1 : ∀ m os, (grow (W1.drewN m) os).cell? ⟨B1 + 1, 1, none⟩ = some (.int .i64 z2) := fun m os => Grew.cell ⟨m, os, rfl⟩ r1
      have gr2 : ∀ m os, (grow (W1.drewN m) os).cell? ⟨B1 + 1, 2, none⟩ = some (.int .i64 z3) := fun m os => Grew.cell ⟨m, os, rfl⟩ r2
      have gr3 : ∀ m os, (grow (W1.drewN m) os).cell? ⟨B1 + 1, 3, none⟩ = some (.int .i64 z4) := fun m os => Grew.cell ⟨m, os, rfl⟩ r3
      have gr4 : ∀ m os, (grow (W1.drewN m) os).cell? ⟨B1 + 1, 4, none⟩ = some (.slice y.ao y.n y.cap) := fun m os => Grew.cell ⟨m, os, rfl⟩ r4
      have hne : (y.name.toList != y.name.toList) = false := by simp
      clear u0 u1 u2 u3 u4 u5 v0 v1 v2 v3 v4 v5 V1 V2 V3 V4 V5 lk k1 k2 HKL kb U0 V0 K1 K2 HG p0 p1 p2 p3 p4 r0 r1 r2 r3 r4 hyp HG0 HX0 HY0
      refine wp_region_quiet_grown mx (by kernel_rfl) ?_
      repeat (go_big_quiet_step ((go_at_call 17; exact Calls.grown_of (HC.out _ _))))
      refine wpQuiet_nil ?_
      intro _ hw'
      obtain ⟨⟨nq, osq⟩, hw''⟩ := hw'
      subst hw''
      have HG2 : Hid (Grew w (grow (W1.drewN nq) osq)) := HGn.out.trans ⟨nq, osq, rfl⟩
      clear gu0 gv0 gp0 gp1 gp2 gp3 gp4 gr0 gr1 gr2 gr3 gr4 HC
      generalize grow (W1.drewN nq) osq = W2 at *
      go_wp2
      go_roundw
      case rel => exact ⟨k + 1, by omega, by go_num, HG2⟩
      case measure => simp [intOf]; omega
    · obtain rfl : k = n := by omega
      go_wp2
      go_ret
      exact ⟨rfl, HG.out⟩

end Go.Proofs.YtiiplikmoodfnaaGreatDoor
/-
  TWO LIBRARIES THAT WERE READ FROM ONE TEXT.
-/
namespace Go.Proofs.YtiiplikmoodfnaaGreatDoor
open Go.RowKit Go.Sort

/-- what of a procedure is read -/
def corA (x : Pr) : ByteArray × Nums × List K := (x.name, x.p, x.L)
theorem corA_of {Ps Qs : List Pr} (h : Ps.map ppOf = Qs.map ppOf) : Ps.map corA = Qs.map corA := by
  induction Ps generalizing Qs with
  | nil => cases Qs with
    | nil => rfl
    | cons _ _ => simp at h
  | cons x Ps ih => cases Qs with
    | nil => simp at h
    | cons y Qs =>
      simp only [List.map_cons, List.cons.injEq] at h ⊢
      refine ⟨?_, ih h.2⟩
      obtain ⟨h1, _⟩ := h
      simp only [ppOf, PP.mk.injEq] at h1
      obtain ⟨e1, e2, e3⟩ := h1
      have e4 : x.name = y.name := ByteArray.ext (Array.toList_inj.1 e1)
      simp only [corA]
      rw [e4, e2, e3]
theorem corA_pd {Ps Qs : List Pr} (h : Ps.map corA = Qs.map corA) (i : Nat) : corA (pd Ps i) = corA (pd Qs i) := by
  have e : (Ps.map corA)[i]? = (Qs.map corA)[i]? := by rw [h]
  have hl : Ps.length = Qs.length := by simpa using congrArg List.length h
  by_cases hi : i < Ps.length
  · have hi' : i < Qs.length := by omega
    simp only [List.getElem?_map, List.getElem?_eq_getElem hi, List.getElem?_eq_getElem hi', Option.map_some, Option.some.injEq] at e
    simpa [pd, List.getD_eq_getElem?_getD, List.getElem?_eq_getElem hi, List.getElem?_eq_getElem hi'] using e
  · simp [pd, List.getD_eq_getElem?_getD, List.getElem?_eq_none (Nat.le_of_not_lt hi), List.getElem?_eq_none (show Qs.length ≤ i by omega)]
theorem hasB_corA {Ps Qs : List Pr} (h : Ps.map corA = Qs.map corA) (nm : ByteArray) : hasB Ps nm = hasB Qs nm := by
  induction Ps generalizing Qs with
  | nil => cases Qs with
    | nil => rfl
    | cons _ _ => simp at h
  | cons x Ps ih => cases Qs with
    | nil => simp at h
    | cons y Qs =>
      simp only [List.map_cons, List.cons.injEq, corA, Prod.mk.injEq] at h
      have := ih h.2
      simp only [hasB, List.any_cons] at this ⊢
      rw [this, h.1.1]
theorem check_corA {Ps Qs : List Pr} (h : Ps.map corA = Qs.map corA) : checkN Ps = checkN Qs := by
  have hl : Ps.length = Qs.length := by simpa using congrArg List.length h
  have hf : chkOne Ps = chkOne Qs := by
    funext i
    have e := corA_pd h i
    simp only [corA, Prod.mk.injEq] at e
    have ht : (Ps.take i).map corA = (Qs.take i).map corA := by rw [List.map_take, List.map_take, h]
    unfold chkOne
    rw [e.1, e.2.1, e.2.2, hasB_corA ht]
  unfold checkN
  rw [hl, hf]
theorem sameLibA_any (w : World) (a1 a2 : Option Addr) (n c1 c2 : Nat) (Qs Ps : List Pr) (h1 : LibAt w a1 Qs) (h2 : LibAt w a2 Ps) (hn : n = Ps.length) (hm : n ≤ 140737488351232) (hcr : Qs.map corA = Ps.map corA) :
    Calls Tryz.prog 7 #[.slice a1 n c1, .slice a2 n c2] w fun e w' => e = .returned (.bool true) ∧ Go.RowKit.Below w.heap.size w w' := by
  have hlen : Qs.length = Ps.length := by have := congrArg List.length hcr; simpa using this
  refine (sameLib_eq w a1 a2 n c1 c2 Qs Ps h1.at_ h2.at_ hn (by omega) hm (fun i hi => ?_)).mono ?_
  · have hi' : i < Qs.length := by omega
    have k1 := h1.ok _ (pd_mem hi')
    have k2 := h2.ok _ (pd_mem (show i < Ps.length by omega))
    have e := corA_pd hcr i
    simp only [corA, Prod.mk.injEq] at e
    obtain ⟨e1, e2, e3⟩ := e
    refine ⟨⟨e1, e2, ?_, e3⟩, k1.ks, k2.ks, k2.len, by have := k2.big; omega⟩
    rw [k1.len, k2.len, e3]
  · rintro e w' ⟨rfl, q, os, rfl⟩
    exact ⟨rfl, (show Grew w (grow (w.drewN q) os) from ⟨q, os, rfl⟩).below⟩
end Go.Proofs.YtiiplikmoodfnaaGreatDoor
/-
  errors.As AT AN ERROR THAT IS NONE OF ITS KIND.
-/
namespace Go.Proofs.YtiiplikmoodfnaaGreatDoor
open Go.RowKit Go.Extern.Stop Go.Stop Go.Extern

theorem asgnM (w : World) : (ReflectliteType.relation "AssignableTo" ReflectliteType.assignableTo #[.agg #[.pointer (some ⟨8, 51, none⟩)], .iface 139 (.agg #[.pointer (some ⟨8, 63, none⟩)])]).run Tryz.prog w = .ok (.bool false) w := by kernel_rfl
theorem lackM0 (v : Value) (xT : TypeId) (w : World) : (Instr.typeAssert (.iface 51 v) xT 144 true).run Tryz.prog w = .ok (.tuple #[.nilIface, .bool false]) w := run_typeAssert_lacksB Tryz.underlying144 (by kernel_rfl) (by kernel_rfl) v xT w
theorem lackM1 (v : Value) (xT : TypeId) (w : World) : (Instr.typeAssert (.iface 51 v) xT 147 true).run Tryz.prog w = .ok (.tuple #[.nilIface, .bool false]) w := run_typeAssert_lacksB Tryz.underlying147 (by kernel_rfl) (by kernel_rfl) v xT w
theorem lackM2 (v : Value) (xT : TypeId) (w : World) : (Instr.typeAssert (.iface 51 v) xT 148 true).run Tryz.prog w = .ok (.tuple #[.nilIface, .bool false]) w := run_typeAssert_lacksB Tryz.underlying148 (by kernel_rfl) (by kernel_rfl) v xT w
set_option maxRecDepth 100000 in
set_option maxHeartbeats 4000000 in
theorem as_missN (e : Int) (t : Addr) (w : World) (hg : w.cell? ⟨0, 0, none⟩ = some (.iface 139 (.agg #[.pointer (some ⟨8, 28, none⟩)]))) :
    Calls Tryz.prog 14 #[.iface 51 (.int .i64 e), .iface 65 (.pointer (some t))] w fun ev w' => ev = .returned (.bool false) ∧ Go.RowKit.Below w.heap.size w w' := by
  have h1 := @run_callFunc_extern Tryz.prog 28 _ (fun args => ReflectliteValue.unpack (args.getD 0 (.tuple #[]))) Tryz.func28 (by kernel_rfl) (by kernel_rfl) (by kernel_rfl) (by kernel_rfl)
  have h2 := @run_callFunc_extern Tryz.prog 29 _ (ReflectliteValue.methodAny (ReflectliteValue.valueError "reflectlite.Value.Type" 0) (fun t _ _ _ => ReflectliteType.toType t)) Tryz.func29 (by kernel_rfl) (by kernel_rfl) (by kernel_rfl) (by kernel_rfl)
  have h3 := @run_callFunc_extern Tryz.prog 30 _ (ReflectliteValue.method (ReflectliteValue.valueError "reflectlite.Value.IsNil" 0) ReflectliteValue.isNil) Tryz.func30 (by kernel_rfl) (by kernel_rfl) (by kernel_rfl) (by kernel_rfl)
  have h4 := @run_callFunc_extern Tryz.prog 133 _ (ReflectliteType.abiMethod fun t => do pure (.int .u8 (← Rtype.kind t))) Tryz.func133 (by kernel_rfl) (by kernel_rfl) (by kernel_rfl) (by kernel_rfl)
  have h5 := @run_callFunc_extern Tryz.prog 145 _ (ReflectliteType.method ReflectliteType.elem) Tryz.func145 (by kernel_rfl) (by kernel_rfl) (by kernel_rfl) (by kernel_rfl)
  have h6 := @run_callFunc_extern Tryz.prog 146 _ (ReflectliteType.relation "Implements" ReflectliteType.implements_) Tryz.func146 (by kernel_rfl) (by kernel_rfl) (by kernel_rfl) (by kernel_rfl)
  have h7 := @run_callFunc_extern Tryz.prog 54 _ ReflectliteType.typeOf Tryz.func54 (by kernel_rfl) (by kernel_rfl) (by kernel_rfl) (by kernel_rfl)
  have h8 := @run_callFunc_extern Tryz.prog 143 _ (ReflectliteType.relation "AssignableTo" ReflectliteType.assignableTo) Tryz.func143 (by kernel_rfl) (by kernel_rfl) (by kernel_rfl) (by kernel_rfl)
  have f1 := valTP
  have f2 := typTP
  have f3 := m_kind
  have f4 := m_elem
  have f5 := m_impl
  have f6 := m_asgn
  have f7 := kindTP
  have f8 := kindEP
  have f9 := elemTP
  have f10 := typeEN
  have f11 := asgnM
  have f12 := implP
  have n8 := isNilP ⟨w.heap.size, 0, none⟩ t ((w.alloc (.cells #[.pointer (some t)] 65)).alloc (.cells #[.pointer (some ⟨8, 65, none⟩), .pointer (some ⟨w.heap.size, 0, none⟩), .int .u64 150] 92)) (by simp)
  have hlt : 0 < w.heap.size := cell_lt' hg
  have hg2 : ((w.alloc (.cells #[.pointer (some t)] 65)).alloc (.cells #[.pointer (some ⟨8, 65, none⟩), .pointer (some ⟨w.heap.size, 0, none⟩), .int .u64 150] 92)).cell? ⟨0, 0, none⟩ = some (.iface 139 (.agg #[.pointer (some ⟨8, 28, none⟩)])) := by
    rw [World.cell?_alloc_lt _ _ ⟨0, 0, none⟩ (by simp <;> omega), World.cell?_alloc_lt _ _ ⟨0, 0, none⟩ hlt]; exact hg
  have l0 := lackM0
  have l1 := lackM1
  have l2 := lackM2
  have HB : Hid (Go.RowKit.Below w.heap.size w (((w.alloc (.cells #[.pointer (some t)] 65)).alloc (.cells #[.pointer (some ⟨8, 65, none⟩), .pointer (some ⟨w.heap.size, 0, none⟩), .int .u64 150] 92)).alloc (.cells #[.pointer (some ⟨8, 65, none⟩), .pointer (some ⟨w.heap.size, 0, none⟩), .int .u64 150] 92))) := ((bel_al _ _).trans ((bel_al _ _).mono (by simp))).trans ((bel_al _ _).mono (by simp; omega))
  go_enter Tryz.func14, Tryz.ntmps14
  go_wp2
  refine wp_loop_rounds 1 ?_
  rw [rounds_succ]
  go_wp2
  go_ret
  exact ⟨rfl, HB.out⟩
theorem eqlM (w : World) : (binOp .eql 28 (.iface 51 (.int .i64 44)) (.iface 51 (.int .i64 44))).run Tryz.prog w = .ok (.bool true) w := by kernel_rfl
set_option maxRecDepth 100000 in
set_option maxHeartbeats 1000000 in
theorem asmLong_any (w : World) (s : ByteArray) (h : 65536 < s.size) : Calls Tryz.prog 5 #[.string s] w fun e w' => e = .returned (.tuple #[.slice none 0 0, .iface 51 (.int .i64 44)]) ∧ w' = w := by
  have h' : (65536 : Int) < (s.size : Int) := by omega
  go_enter Tryz.func5, Tryz.ntmps5
  go_wp2_with fail
  go_ret2
  exact ⟨rfl, rfl⟩
set_option maxRecDepth 100000 in
set_option maxHeartbeats 4000000 in
theorem faultLong_any (w : World) (he : ErrVar w) (hB : 8 ≤ w.heap.size) : Calls Tryz.prog 6 #[.iface 51 (.int .i64 44)] w fun e w' => e = .returned (.agg #[.int .i64 0, .int .i64 0, .int .i64 44]) ∧ Go.RowKit.Below w.heap.size w w' := by
  obtain ⟨f, hf⟩ : ∃ f, f = w.heap.size := ⟨_, rfl⟩
  obtain ⟨W3, hW3⟩ : ∃ W3, W3 = ((w.alloc (.cells #[.int .i64 0, .int .i64 0, .int .i64 0] 24)).alloc (.cells #[.pointer none] 63)).alloc (.cells #[.int .i64 0] 51) := ⟨_, rfl⟩
  have hB3 : Go.RowKit.Below f w W3 := by rw [hW3, hf]; exact (((Below.refl _ w).alloc (Nat.le_refl _) _).alloc (by simp only [World.size_alloc]; omega) _).alloc (by simp only [World.size_alloc]; omega) _
  have hf3 : FB W3 f (.int .i64 0) (.int .i64 0) (.int .i64 0) := by rw [hW3, hf]; exact (heap_alloc_old _ _ (by simp only [World.size_alloc]; omega)).trans ((heap_alloc_old _ _ (by simp only [World.size_alloc]; omega)).trans (heap_alloc_new _ _ rfl))
  have hE3 := he.bel hB3 (by omega)
  have HA1 := hidA (as_missN 44 ⟨f + 1, 0, none⟩ W3 hE3)
  have HF3 := hidA (And.intro hB3 hf3)
  have eq := eqlM
  clear he hB3 hf3 hE3
  go_enter Tryz.func6, Tryz.ntmps6
  go_upto_region 5 with fail
  rw [← hW3]
  clear hW3
  rw [← hf]
  have HFq := hidA hf
  clear hB hf
  go_wp2_with fail
  refine HA1.out.mono ?_
  rintro e w4 ⟨rfl, hb4⟩
  have hF4 : FB w4 f (.int .i64 0) (.int .i64 0) (.int .i64 0) := (hb4.block f (Array.getElem?_eq_some_iff.1 HF3.out.2).1).trans HF3.out.2
  have hc0 : w4.cell? ⟨f, 0, none⟩ = some (.int .i64 0) := by unfold World.cell?; rw [show w4.heap[f]? = _ from hF4]; rfl
  have hc1 : w4.cell? ⟨f, 1, none⟩ = some (.int .i64 0) := by unfold World.cell?; rw [show w4.heap[f]? = _ from hF4]; rfl
  have hc2 : w4.cell? ⟨f, 2, none⟩ = some (.int .i64 0) := by unfold World.cell?; rw [show w4.heap[f]? = _ from hF4]; rfl
  have g0 := frozen_of_row w4 f 0 _ _ hF4
  have g1 := frozen_of_row w4 f 1 _ _ hF4
  have g2 := frozen_of_row w4 f 2 _ _ hF4
  have hF5 : FB (((w4.setCell ⟨f, 0, none⟩ (.int .i64 0)).setCell ⟨f, 1, none⟩ (.int .i64 0)).setCell ⟨f, 2, none⟩ (.int .i64 44)) f (.int .i64 0) (.int .i64 0) (.int .i64 44) := heap_setCell_same _ f 2 _ _ _ (heap_setCell_same _ f 1 _ _ _ (heap_setCell_same w4 f 0 _ _ _ hF4))
  have hld := load_fault hF5
  have HX : Hid (Go.RowKit.Below w.heap.size w (((w4.setCell ⟨f, 0, none⟩ (.int .i64 0)).setCell ⟨f, 1, none⟩ (.int .i64 0)).setCell ⟨f, 2, none⟩ (.int .i64 44))) := by
    have h3 := HF3.out.1
    have h4 : Go.RowKit.Below f w w4 := h3.trans (hb4.mono (by have := h3.size; have := HFq.out; omega))
    rw [Hid, ← HFq.out]
    exact ((h4.trans (below_setC _ _ (Nat.le_refl _))).trans (below_setC _ _ (Nat.le_refl _))).trans (below_setC _ _ (Nat.le_refl _))
  clear hb4 hF4 hF5 HA1 HF3
  go_wp2_with fail
  refine bodyPost_ret (v := .agg #[.int .i64 0, .int .i64 0, .int .i64 44]) ?_ rfl ?_
  · simp [results, Tryz.results6, asAddr, hld]
  · exact ⟨rfl, HX.out⟩
end Go.Proofs.YtiiplikmoodfnaaGreatDoor
/-
  ROWS OF ONE'S OWN THAT ARE WRITTEN OVER AND GROWN.
-/
namespace Go.Proofs.YtiiplikmoodfnaaGreatDoor
open Go.RowKit Go.Sort

/-- a kind of elements -/
structure ElA (TS TE : TypeId) (z : Value) (sz by_ : Nat) : Prop where
  u : Tryz.prog.underlying TS = some (.slice TE)
  i : (Tryz.prog.info? TE).map (fun i => (i.zero, i.size, i.bytes)) = some (some z, sz, by_)
  c : z.cells.size = sz
  p : 0 < sz
  b : by_ ≤ 80
theorem ownA_mono {w : World} {base base' : Nat} {T : TypeId} {sz : Nat} {v : Value} {n : Nat} {xs : List Value} (h : w.ownsRow base T sz v n xs) (hb : base' ≤ base) : w.ownsRow base' T sz v n xs := by
  obtain ⟨hl, h⟩ := h
  refine ⟨hl, ?_⟩
  rcases h with h | ⟨g, cap, cur, e, hg, r⟩
  · exact .inl h
  · exact .inr ⟨g, cap, cur, e, by omega, r⟩
/-- append to a row of one's own: in its room, or to a new row -/
theorem appC {TS TE : TypeId} {z : Value} {sz by_ : Nat} (E : ElA TS TE z sz by_) {w : World} (ty : TypeId) (base : Nat) (v : Value) (n : Nat) (xs : List Value) (hown : w.ownsRow base TE sz v n xs) (a : Addr) (m c : Nat) (news : List Value) (hl : news.length = m * sz) (hnews : ∀ j u, news[j]? = some u → w.cell? (a.add j) = some u) (h1 : ∀ u ∈ news, u.oneCell' = true) (hn : n + m ≤ 1000000000) (hbase : base ≤ w.heap.size) :
    ∃ v' w', (Builtin.append_ #[TS, TS] ty #[v, .slice (some a) m c]).run Tryz.prog w = .ok v' w' ∧ w'.ownsRow base TE sz v' (n + m) (xs ++ news) ∧
      ((∃ g cap, v = .slice (some ⟨g, 0, none⟩) n cap ∧ v' = .slice (some ⟨g, 0, none⟩) (n + m) cap ∧ w.grownBy w' (some g)) ∨ (w'.ownsRow w.heap.size TE sz v' (n + m) (xs ++ news) ∧ w.grownBy w' none)) := by
  have hown0 := hown
  obtain ⟨i0, hi', hz0, hz1, hz2⟩ := info_parts E.i
  have hb := E.b
  have hm : (n + m) * by_ ≤ 1000000000 * 80 := Nat.mul_le_mul hn hb
  rcases hown with ⟨hlx, ⟨rfl, rfl⟩ | ⟨g, cap, cur, rfl, hbg, hh, hnc, hcm, hcs, ht⟩⟩
  · have h0 : xs = [] := List.eq_nil_of_length_eq_zero (by rw [hlx, Nat.zero_mul])
    subst h0
    obtain ⟨v', w', hr, h2, h3, _⟩ := run_append_own_at (P := Tryz.prog) (w := w) w.heap.size TS ty TE i0 z sz by_ E.u hi' hz0 hz1 hz2 E.c E.p (.slice none 0 0) 0 [] (World.ownsRow_nil _ _ _ _) a m c news hl hnews h1 (by unfold maxLen; omega) (by omega) (Nat.le_refl _)
    exact ⟨v', w', hr, ownA_mono h2 hbase, .inr ⟨h2, h3⟩⟩
  · by_cases hroom : n + m ≤ cap
    · obtain ⟨w', hr, h2, h3⟩ := run_append_own_spare (P := Tryz.prog) (w := w) base TS ty TE i0 sz E.u hi' hz1 g n cap xs hown0 a m c news hl hnews h1 hroom
      exact ⟨_, w', hr, h2, .inl ⟨g, cap, rfl, rfl, h3⟩⟩
    · have hfit : Builtin.nextslicecap (n + m) cap * i0.bytes ≤ 281474976710656 := growslice_fits (by omega) (by rw [hz2]; omega)
      have hr := run_append_grow (P := Tryz.prog) w TS ty TE i0 z E.u hi' hz0 ⟨g, 0, none⟩ n cap xs (by rw [hz1]; exact hlx) (World.ownsRow.cells hown0 rfl) a m c news (by rw [hz1]; exact hl) hnews (by omega) (by omega) hfit
      have hlen : (xs ++ news).length = (n + m) * sz := by rw [List.length_append, hl, hlx, Nat.add_mul]
      have hO : (w.drew.alloc (.cells (xs.toArray ++ news.toArray ++ Builtin.zeroCells z.cells (grownCap w (n + m) cap TE - (n + m))) TE)).ownsRow w.heap.size TE sz (.slice (some ⟨w.heap.size, 0, none⟩) (n + m) (grownCap w (n + m) cap TE)) (n + m) (xs ++ news) := by
        refine ⟨hlen, .inr ⟨w.heap.size, _, _, rfl, Nat.le_refl _, Go.heap_alloc_new w.drew _, grownCap_ge w (n + m) cap TE, grownCap_le_maxLen w (n + m) cap TE (by unfold maxLen; omega), ?_, ?_⟩⟩
        · have hge := grownCap_ge w (n + m) cap TE
          simp only [Array.size_append, List.size_toArray, size_zeroCells, E.c, hl, hlx]
          generalize grownCap w (n + m) cap TE = G at *
          rw [← Nat.add_mul, ← Nat.add_mul, show n + m + (G - (n + m)) = G by omega]
        · simp only [Array.toList_append, List.append_assoc]
          rw [← List.append_assoc, ← hlen]
          exact List.take_left
      exact ⟨_, _, hr, ownA_mono hO hbase, .inr ⟨hO, ⟨rfl, rfl, rfl, by simp, fun k hk _ => Go.heap_alloc_old w.drew _ hk⟩⟩⟩
theorem wpL_appR {w : World} {ops : Array Oper} {rest : List Oper} {o : Oper} {a : Act} {Q : Exit → Act → World → Prop} (hgd : o.guard = none) (s x : Operand) (TS : TypeId)
    (ho : o.op = .call { callee := .builtin .append, args := #[s, x], argTypes := #[TS, TS] }) (v u : Value) (hs : a.eval s = v) (hx : a.eval x = u) {post : Value → World → Prop}
    (hr : ∀ ty, ∃ v' w', (Builtin.append_ #[TS, TS] ty #[v, u]).run Tryz.prog w = .ok v' w' ∧ post v' w') (h : ∀ v' w', post v' w' → wpList Tryz.prog ops Q rest (a.put o.dst v') w') : wpList Tryz.prog ops Q (o :: rest) a w := by
  obtain ⟨v', w', hr, h2⟩ := hr o.type
  refine wpList_plain hgd fun K hK' => ?_
  unfold Oper.wp
  simp [execOp, ho, resolve, invoke, builtin, hs, hx, hr, Result.andThen]
  exact hK' _ _ (h v' w' h2)
/-- a row's beginning -/
theorem own_pre {W : World} {base T sz g n m cap : Nat} {xs ys : List Value} (h : W.ownsRow base T sz (.slice (some ⟨g, 0, none⟩) (n + m) cap) (n + m) (xs ++ ys)) (hx : xs.length = n * sz) : W.ownsRow base T sz (.slice (some ⟨g, 0, none⟩) n cap) n xs := by
  obtain ⟨hl, ⟨e, _⟩ | ⟨g', cp, cur, e, hg, hh, h5, h6, h7, h8⟩⟩ := h
  · cases e
  · simp only [Value.slice.injEq, Option.some.injEq, Addr.mk.injEq, and_true, true_and] at e
    obtain ⟨rfl, rfl⟩ := e
    refine ⟨hx, .inr ⟨g, cap, cur, rfl, hg, hh, by omega, h6, h7, ?_⟩⟩
    have h9 := congrArg (List.take (n * sz)) h8
    rw [List.take_take, Nat.min_eq_left (by rw [Nat.add_mul]; omega), ← hx, List.take_left] at h9
    rw [← hx]
    exact h9
/-- all below base stays, and all but the blocks of one kind -/
structure FrX (base T : Nat) (W W' : World) : Prop where
  os : W'.os = W.os
  tape : W'.tape = W.tape
  output : W'.output = W.output
  size : W.heap.size ≤ W'.heap.size
  low : ∀ k, k < base → W'.heap[k]? = W.heap[k]?
  oth : ∀ (k : Nat) (cur : Array Value) (t : TypeId), W.heap[k]? = some (.cells cur t (0, 0)) → t ≠ T → W'.heap[k]? = W.heap[k]?
theorem FrX.refl (base T : Nat) (W : World) : FrX base T W W := ⟨rfl, rfl, rfl, Nat.le_refl _, fun _ _ => rfl, fun _ _ _ _ _ => rfl⟩
theorem FrX.trans {base T : Nat} {a b c : World} (h : FrX base T a b) (k : FrX base T b c) : FrX base T a c := ⟨k.os.trans h.os, k.tape.trans h.tape, k.output.trans h.output, Nat.le_trans h.size k.size, fun i hi => (k.low i hi).trans (h.low i hi), fun i cur t hi ht => (k.oth i cur t ((h.oth i cur t hi ht).trans hi) ht).trans (h.oth i cur t hi ht)⟩
theorem FrX.bel {base T : Nat} {a b : World} (h : Go.RowKit.Below a.heap.size a b) (hb : base ≤ a.heap.size) : FrX base T a b := ⟨h.os, h.tape, h.output, h.size, fun k hk => h.block k (by omega), fun k _ _ hk _ => h.block k (Array.getElem?_eq_some_iff.1 hk).1⟩
theorem FrX.grown {base T : Nat} {a b : World} {row : Option Nat} (h : a.grownBy b row) (hb : base ≤ a.heap.size) (hr : ∀ g, row = some g → base ≤ g ∧ ∃ cur, a.heap[g]? = some (.cells cur T (0, 0))) : FrX base T a b :=
  ⟨h.os, h.tape, h.output, h.size, fun k hk => h.block k (by omega) (fun e => by have := (hr k e.symm).1; omega), fun k cur t hk ht => h.block k (Array.getElem?_eq_some_iff.1 hk).1 (fun e => by
    obtain ⟨_, cur', hc⟩ := hr k e.symm
    rw [hk] at hc
    simp only [Option.some.injEq, Obj.cells.injEq] at hc
    exact ht hc.2.1)⟩
theorem FrX.row {base T e size n b' : Nat} {W W' : World} {v : Value} {xs : List Value} (f : FrX base T W W') (ho : W.ownsRow b' e size v n xs) (he : e ≠ T) : W'.ownsRow b' e size v n xs := ownsRow_same ho (fun g hg => by
  obtain ⟨cur, hc⟩ := own_blk ho hg
  exact f.oth g cur e hc he)
/-- ROWS, each in a block of its own -/
structure SHX (W : World) (base T sz N : Nat) (cv : Nat → Value) (ln : Nat → Nat) (Z : Nat → List Value) : Prop where
  row : ∀ i, i < N → W.ownsRow base T sz (cv i) (ln i) (Z i)
  dis : ∀ i j, i < N → j < N → i ≠ j → ∀ g, (cv i).ownBlock = some g → (cv j).ownBlock ≠ some g
section
variable {W W' : World} {base T sz N : Nat} {cv : Nat → Value} {ln : Nat → Nat} {Z : Nat → List Value}
theorem SHX.frx {T' : Nat} (h : SHX W base T sz N cv ln Z) (f : FrX base T' W W') (ht : T ≠ T') : SHX W' base T sz N cv ln Z := ⟨fun i hi => f.row (h.row i hi) ht, h.dis⟩
theorem SHX.kept (h : SHX W base T sz N cv ln Z) (hb : Go.RowKit.Below W.heap.size W W') : SHX W' base T sz N cv ln Z := ⟨fun i hi => ownsRow_same (h.row i hi) (fun g hg => hb.block g (World.ownsRow.lt (h.row i hi) g hg).2), h.dis⟩
theorem SHX.grown {row : Option Nat} (h : SHX W base T sz N cv ln Z) (hg : W.grownBy W' row) (hr : ∀ g, row = some g → ∀ j, j < N → (cv j).ownBlock ≠ some g) : SHX W' base T sz N cv ln Z := ⟨fun i hi => ownsRow_same (h.row i hi) (fun g hgg => hg.block g (World.ownsRow.lt (h.row i hi) g hgg).2 (fun e => hr g e.symm i hi hgg)), h.dis⟩
def updA {α : Type} (f : Nat → α) (i : Nat) (v : α) : Nat → α := fun j => if j = i then v else f j
theorem SHX.put {i : Nat} {Y : List Value} (h : SHX W base T sz N cv ln Z) (hi : i < N) (ho : W'.ownsRow base T sz (cv i) (ln i) Y) (hg : W.grownBy W' (cv i).ownBlock) : SHX W' base T sz N cv ln (updA Z i Y) := by
  refine ⟨fun j hj => ?_, h.dis⟩
  unfold updA
  split
  · rename_i e; subst e; exact ho
  · rename_i e
    exact ownsRow_same (h.row j hj) (fun g hgg => hg.block g (World.ownsRow.lt (h.row j hj) g hgg).2 (fun e2 => h.dis i j hi hj (fun e3 => e e3.symm) g e2.symm hgg))
theorem SHX.congr {Z' : Nat → List Value} (h : SHX W base T sz N cv ln Z) (e : ∀ i, i < N → Z i = Z' i) : SHX W base T sz N cv ln Z' := ⟨fun i hi => by rw [← e i hi]; exact h.row i hi, h.dis⟩
/-- one of them, as it grows -/
structure GV (W : World) (base T sz N : Nat) (cv : Nat → Value) (ln : Nat → Nat) (Z : Nat → List Value) (i : Nat) (v : Value) (t : Nat) : Prop where
  ex : ∃ ys, W.ownsRow base T sz v (ln i + t) (Z i ++ ys)
  wh : (∃ g cap, cv i = .slice (some ⟨g, 0, none⟩) (ln i) cap ∧ v = .slice (some ⟨g, 0, none⟩) (ln i + t) cap) ∨ (∀ g, v.ownBlock = some g → ∀ j, j < N → (cv j).ownBlock ≠ some g)
theorem GV.start {i : Nat} (h : SHX W base T sz N cv ln Z) (hi : i < N) : GV W base T sz N cv ln Z i (cv i) 0 := by
  refine ⟨⟨[], by rw [List.append_nil]; exact h.row i hi⟩, ?_⟩
  obtain ⟨ao, cap, e, _, _, h3⟩ := own_slice (h.row i hi)
  cases ao with
  | none => right; intro g hg; rw [e] at hg; cases hg
  | some a =>
    left
    have := (h3 a rfl).1
    exact ⟨a.block, cap, by rw [e, this], by rw [e, this]; rfl⟩
theorem GV.kept {i t : Nat} {v : Value} (h : GV W base T sz N cv ln Z i v t) (hb : Go.RowKit.Below W.heap.size W W') : GV W' base T sz N cv ln Z i v t := by
  obtain ⟨⟨ys, ho⟩, hw⟩ := h
  exact ⟨⟨ys, ownsRow_same ho (fun g hg => hb.block g (World.ownsRow.lt ho g hg).2)⟩, hw⟩
theorem GV.app {TS : TypeId} {z : Value} {by_ i t : Nat} {v : Value} (E : ElA TS T z sz by_) (h : SHX W base T sz N cv ln Z) (hi : i < N) (hg : GV W base T sz N cv ln Z i v t) (a : Addr) (m c : Nat) (zs : List Value) (hl : zs.length = m * sz) (hsrc : ∀ j u, zs[j]? = some u → W.cell? (a.add j) = some u) (h1 : ∀ u ∈ zs, u.oneCell' = true) (hn : ln i + t + m ≤ 1000000000) (hb : base ≤ W.heap.size) (ty : TypeId) :
    ∃ v' w', (Builtin.append_ #[TS, TS] ty #[v, .slice (some a) m c]).run Tryz.prog W = .ok v' w' ∧ (∃ o c', v' = .slice o (ln i + (t + m)) c') ∧ SHX w' base T sz N cv ln Z ∧ GV w' base T sz N cv ln Z i v' (t + m) ∧ FrX base T W w' := by
  obtain ⟨⟨ys, ho⟩, hw⟩ := hg
  obtain ⟨v', w', hr, ho', hc⟩ := appC E ty base v (ln i + t) (Z i ++ ys) ho a m c zs hl hsrc h1 hn hb
  rw [List.append_assoc, Nat.add_assoc] at ho'
  obtain ⟨o9, c9, hv9, _⟩ := own_slice ho'
  rcases hc with ⟨g, cap, rfl, rfl, hgr⟩ | ⟨hnew, hgr⟩
  · have hblk := own_blk ho (g := g) rfl
    have hfr : FrX base T W w' := FrX.grown hgr hb (fun k e => by cases e; exact ⟨(World.ownsRow.lt ho g rfl).1, hblk⟩)
    refine ⟨_, w', hr, ⟨o9, c9, hv9⟩, ?_, ⟨⟨ys ++ zs, ho'⟩, ?_⟩, hfr⟩
    · rcases hw with ⟨g2, cap2, e1, e2⟩ | hw
      · cases e2
        refine ⟨fun j hj => ?_, h.dis⟩
        by_cases hji : j = i
        · subst hji
          rw [e1]
          rw [Nat.add_assoc] at ho'
          exact own_pre ho' (h.row j hj).1
        · exact ownsRow_same (h.row j hj) (fun g3 hg3 => hgr.block g3 (World.ownsRow.lt (h.row j hj) g3 hg3).2 (fun e => h.dis j i hj hi hji g3 hg3 (by rw [e1]; exact e.symm)))
      · exact h.grown hgr (fun k e => by cases e; exact hw g rfl)
    · rcases hw with ⟨g2, cap2, e1, e2⟩ | hw
      · cases e2
        exact .inl ⟨g, cap, e1, by rw [Nat.add_assoc]⟩
      · exact .inr (fun k e => hw k e)
  · refine ⟨v', w', hr, ⟨o9, c9, hv9⟩, h.grown hgr (fun k e => by cases e), ⟨⟨ys ++ zs, ho'⟩, .inr (fun k e j hj e2 => ?_)⟩, FrX.grown hgr hb (fun k e => by cases e)⟩
    have h5 := (World.ownsRow.lt hnew k e).1
    have h6 := (World.ownsRow.lt (h.row j hj) k e2).2
    omega
end
/-- the first k elements of two cells are written over -/
def fil2 (x y : Value) : Nat → List Value → List Value
  | 0, Z => Z
  | k + 1, Z => ((fil2 x y k Z).set (k * 2) x).set (k * 2 + 1) y
theorem fil2_len (x y : Value) : ∀ k Z, (fil2 x y k Z).length = Z.length
  | 0, _ => rfl
  | k + 1, Z => by simp [fil2, fil2_len x y k Z]
theorem fil2_at (x y : Value) : ∀ k Z, k * 2 ≤ Z.length → ∀ j, j < k → (fil2 x y k Z)[j * 2]? = some x
  | 0, _, _, j, hj => by omega
  | k + 1, Z, hk, j, hj => by
    simp only [fil2]
    rw [List.getElem?_set_ne (by omega)]
    by_cases e : j = k
    · subst e
      rw [List.getElem?_set_self (by rw [fil2_len]; omega)]
    · rw [List.getElem?_set_ne (by omega)]
      exact fil2_at x y k Z (by omega) j (by omega)
/-- the first k procedures are written over -/
def fil6 (x : Value) : Nat → List Value → List Value
  | 0, Z => Z
  | k + 1, Z => ((((((fil6 x k Z).set (k * 6) (.string ⟨#[]⟩)).set (k * 6 + 1) x).set (k * 6 + 2) (.int .i64 0)).set (k * 6 + 3) (.int .i64 0)).set (k * 6 + 4) (.int .i64 0)).set (k * 6 + 5) (.slice none 0 0)
theorem fil6_len (x : Value) : ∀ k Z, (fil6 x k Z).length = Z.length
  | 0, _ => rfl
  | k + 1, Z => by simp [fil6, fil6_len x k Z]
theorem fil6_at (x : Value) : ∀ k Z, k * 6 ≤ Z.length → ∀ j, j < k → (fil6 x k Z)[j * 6 + 1]? = some x
  | 0, _, _, j, hj => by omega
  | k + 1, Z, hk, j, hj => by
    simp only [fil6]
    rw [List.getElem?_set_ne (by omega), List.getElem?_set_ne (by omega), List.getElem?_set_ne (by omega), List.getElem?_set_ne (by omega)]
    by_cases e : j = k
    · subst e
      rw [List.getElem?_set_self (by rw [List.length_set, fil6_len]; omega)]
    · rw [List.getElem?_set_ne (by omega), List.getElem?_set_ne (by omega)]
      exact fil6_at x k Z (by omega) j (by omega)
theorem elIn : ElA 40 76 (.agg #[.int .i64 0, .int .i64 0]) 2 16 := ⟨Tryz.underlying40, by kernel_rfl, rfl, by decide, by decide⟩
theorem elPc : ElA 22 72 (.agg #[.string ⟨#[]⟩, .int .i64 0, .int .i64 0, .int .i64 0, .int .i64 0, .slice none 0 0]) 6 72 := ⟨Tryz.underlying22, by kernel_rfl, rfl, by decide, by decide⟩
theorem elRo : ElA 74 40 (.slice none 0 0) 1 24 := ⟨Tryz.underlying74, by kernel_rfl, rfl, by decide, by decide⟩
theorem new_src {W : World} {T : TypeId} {news : List Value} : ∀ j u, news[j]? = some u → (W.alloc (.cells news.toArray T)).cell? ((⟨W.heap.size, 0, none⟩ : Addr).add j) = some u := fun j u hu => by
  rw [addr_add, Nat.zero_add]
  have hb : (W.alloc (.cells news.toArray T)).heap[W.heap.size]? = some (.cells news.toArray T (0, 0)) := heap_alloc_new _ _ rfl
  simp only [World.cell?, hb]
  simpa using hu
end Go.Proofs.YtiiplikmoodfnaaGreatDoor
