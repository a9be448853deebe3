/-
  THE WALKS OF sameLibrary, LangChecks.
-/
import Derived.Test.YtjmlogljfboleaaLLib
namespace Go.Proofs.Ytjmlogljfboleaa
open Go.RowKit Go.Sort

/-- two procedures alike -/
structure LikeP (x y : Pr) : Prop where
  name : x.name = y.name
  p : x.p = y.p
  n : x.n = y.n
  L : x.L = y.L
theorem hasB_names (Ps : List Pr) (nm : ByteArray) : hasB Ps nm = (Ps.map (·.name)).any fun s => s.toList == nm.toList := by
  unfold hasB; rw [List.any_map]; rfl
theorem check_congr {Ps Qs : List Pr} (hl : Qs.length = Ps.length) (h : ∀ i, i < Ps.length → LikeP (pd Qs i) (pd Ps i)) : checkN Qs = checkN Ps := by
  have hm : Qs.map (·.name) = Ps.map (·.name) := by
    apply List.ext_getElem (by simp [hl])
    intro i h1 h2
    have hi : i < Ps.length := by simpa using h2
    have hi2 : i < Qs.length := by simpa using h1
    have := (h i hi).name
    simpa [pd, List.getD_eq_getElem?_getD, List.getElem?_eq_getElem hi, List.getElem?_eq_getElem hi2] using this
  have hc : ∀ i, i < Ps.length → chkOne Qs i = chkOne Ps i := by
    intro i hi
    have hx := h i hi
    unfold chkOne
    rw [hx.name, hx.p, hx.L, hasB_names, hasB_names, List.map_take, List.map_take, hm]
  have hf : ∀ k, k ≤ Ps.length → firstP (chkOne Qs) k = firstP (chkOne Ps) k := by
    intro k
    induction k with
    | zero => intro _; rfl
    | succ k ih => intro hk; simp only [firstP, ih (by omega), hc k (by omega)]
  unfold checkN
  rw [hl, hf _ (Nat.le_refl _)]

set_option maxRecDepth 100000 in
set_option maxHeartbeats 2000000 in
theorem sameLibrary_eq (w : World) (a1 a2 : Option Addr) (n c1 c2 : Nat) (Qs Ps : List Pr) (h1 : ProcsAt w a1 Qs) (h2 : ProcsAt w a2 Ps) (hn : n = Ps.length) (hn1 : n = Qs.length) (hm : n ≤ 140737488351232)
    (hk : ∀ i, i < n → LikeP (pd Qs i) (pd Ps i) ∧ KeysAt w (pd Qs i).ao (pd Qs i).L ∧ KeysAt w (pd Ps i).ao (pd Ps i).L ∧ (pd Ps i).n = (pd Ps i).L.length ∧ (pd Ps i).n * 16 ≤ 140737488355328) :
    Calls Try.prog 32 #[.slice a1 n c1, .slice a2 n c2] w fun e w' => e = .returned (.bool true) ∧ ∃ q os, w' = grow (w.drewN q) os := by
  have H1 : Hid (ProcsAt w a1 Qs) := h1
  have H2 : Hid (ProcsAt w a2 Ps) := h2
  have HN : Hid (n = Ps.length) := hn
  have HN1 : Hid (n = Qs.length) := hn1
  have HK : Hid (∀ i, i < n → LikeP (pd Qs i) (pd Ps i) ∧ KeysAt w (pd Qs i).ao (pd Qs i).L ∧ KeysAt w (pd Ps i).ao (pd Ps i).L ∧ (pd Ps i).n = (pd Ps i).L.length ∧ (pd Ps i).n * 16 ≤ 140737488355328) := hk
  clear h1 h2 hn hn1 hk
  have mx := mixed
  go_enter Try.func32, Try.ntmps32
  go_wp2_with fail
  go_loopw [5] (fun x wr => ∃ k : Nat, k ≤ n ∧ x = .int .i64 (k : Int) ∧ Hid (Grew w wr)) (fun x _ => n - (intOf x).toNat)
  case atStart => exact ⟨0, by omega, rfl, Grew.refl _⟩
  case round =>
    obtain ⟨k, hk, rfl, HG⟩ := hrel
    by_cases hlt : k < n
    · obtain ⟨b1, o1, rfl, u0, u1, u2, u3, u4, u5⟩ := (H1.out.grew HG.out).get k (by have := HN1.out; omega)
      obtain ⟨b2, o2, rfl, v0, v1, v2, v3, v4, v5⟩ := (H2.out.grew HG.out).get k (by have := HN.out; omega)
      obtain ⟨lk, k1, k2, kl, kb⟩ := HK.out k hlt
      rw [lk.name] at u0
      rw [lk.p] at u1 u2 u3 u4
      rw [lk.n] at u5
      rw [lk.L] at k1
      generalize pd Ps k = y at *
      generalize (pd Qs k).ao = xa at *
      generalize (pd Qs k).cap = xc at *
      have HC : Hid (∀ m os, Calls Try.prog 25 #[pv y.p xa y.n xc, pv y.p y.ao y.n y.cap] (grow (wr.drewN m) os) fun e w' => e = .returned (.bool true) ∧ ∃ q os', w' = grow ((grow (wr.drewN m) os).drewN q) os') := fun m os =>
        sameProgram_eq _ y.p xa y.ao y.n xc y.cap y.L ((k1.grew HG.out).grew ⟨m, os, rfl⟩) ((k2.grew HG.out).grew ⟨m, os, rfl⟩) kl kb
      have gu0 : ∀ m os, (grow (wr.drewN m) os).cell? ⟨b1, o1 + k * 6, none⟩ = some (.string y.name) := fun m os => Grew.cell ⟨m, os, rfl⟩ u0
      have gu1 : ∀ m os, (grow (wr.drewN m) os).cell? ⟨b1, o1 + k * 6 + 1, none⟩ = some (.int .i64 y.p.args) := fun m os => Grew.cell ⟨m, os, rfl⟩ u1
      have gu2 : ∀ m os, (grow (wr.drewN m) os).cell? ⟨b1, o1 + k * 6 + 2, none⟩ = some (.int .i64 y.p.reads) := fun m os => Grew.cell ⟨m, os, rfl⟩ u2
      have gu3 : ∀ m os, (grow (wr.drewN m) os).cell? ⟨b1, o1 + k * 6 + 3, none⟩ = some (.int .i64 y.p.writes) := fun m os => Grew.cell ⟨m, os, rfl⟩ u3
      have gu4 : ∀ m os, (grow (wr.drewN m) os).cell? ⟨b1, o1 + k * 6 + 4, none⟩ = some (.int .i64 y.p.locals) := fun m os => Grew.cell ⟨m, os, rfl⟩ u4
      have gu5 : ∀ m os, (grow (wr.drewN m) os).cell? ⟨b1, o1 + k * 6 + 5, none⟩ = some (.slice xa y.n xc) := fun m os => Grew.cell ⟨m, os, rfl⟩ u5
      have gv0 : ∀ m os, (grow (wr.drewN m) os).cell? ⟨b2, o2 + k * 6, none⟩ = some (.string y.name) := fun m os => Grew.cell ⟨m, os, rfl⟩ v0
      have gv1 : ∀ m os, (grow (wr.drewN m) os).cell? ⟨b2, o2 + k * 6 + 1, none⟩ = some (.int .i64 y.p.args) := fun m os => Grew.cell ⟨m, os, rfl⟩ v1
      have gv2 : ∀ m os, (grow (wr.drewN m) os).cell? ⟨b2, o2 + k * 6 + 2, none⟩ = some (.int .i64 y.p.reads) := fun m os => Grew.cell ⟨m, os, rfl⟩ v2
      have gv3 : ∀ m os, (grow (wr.drewN m) os).cell? ⟨b2, o2 + k * 6 + 3, none⟩ = some (.int .i64 y.p.writes) := fun m os => Grew.cell ⟨m, os, rfl⟩ v3
      have gv4 : ∀ m os, (grow (wr.drewN m) os).cell? ⟨b2, o2 + k * 6 + 4, none⟩ = some (.int .i64 y.p.locals) := fun m os => Grew.cell ⟨m, os, rfl⟩ v4
      have gv5 : ∀ m os, (grow (wr.drewN m) os).cell? ⟨b2, o2 + k * 6 + 5, none⟩ = some (.slice y.ao y.n y.cap) := fun m os => Grew.cell ⟨m, os, rfl⟩ v5
      have hne : (y.name.toList != y.name.toList) = false := by simp
      clear u0 u1 u2 u3 u4 u5 v0 v1 v2 v3 v4 v5 lk k1 k2 kl kb
      go_wp2_with fail
      refine wp_region_quiet_grown mx (by kernel_rfl) ?_
      repeat (go_big_quiet_step ((go_at_call 25; exact Calls.grown_of (HC.out _ _))))
      refine wpQuiet_nil ?_
      intro _ hw'
      obtain ⟨⟨nq, osq⟩, hw''⟩ := hw'
      subst hw''
      have HG2 : Hid (Grew w (grow (wr.drewN nq) osq)) := HG.out.trans ⟨nq, osq, rfl⟩
      clear gu0 gu1 gu2 gu3 gu4 gu5 gv0 gv1 gv2 gv3 gv4 gv5 HC
      generalize grow (wr.drewN nq) osq = W2 at *
      go_wp2
      go_roundw
      case rel => exact ⟨k + 1, by omega, by go_num, HG2⟩
      case measure => simp [intOf]; omega
    · obtain rfl : k = n := by omega
      go_wp2
      go_ret
      exact ⟨rfl, HG.out⟩

set_option maxRecDepth 100000 in
set_option maxHeartbeats 2000000 in
theorem checks_walk (w : World) (ao : Option Addr) (n cap : Nat) (Ps : List Pr) (h : LibAt w ao Ps) (hn : n = Ps.length) (hm : n ≤ 140737488351232) :
    Calls Try.prog 6 #[.slice ao n cap] w fun e w' => e = .returned (.bool true) ∧ Below w.heap.size w w' := by
  have H : Hid (LibAt w ao Ps) := h
  have HN : Hid (n = Ps.length) := hn
  clear h hn
  go_enter Try.func6, Try.ntmps6
  go_wp2_with fail
  refine (wide_any w ao n cap Ps H.out HN.out hm).mono ?_
  rintro e w1 ⟨⟨b, rfl, hb⟩, rfl⟩
  cases b with
  | true =>
    go_wp2
    go_ret
    exact ⟨rfl, Below.refl _ _⟩
  | false =>
    obtain ⟨hm1, hm2⟩ := hb rfl
    clear hb
    go_wp2_with fail
    refine (library_any w1 ao n cap Ps H.out HN.out hm1).mono ?_
    rintro e w2 ⟨⟨g, Qs, rfl, hrow, hlen, hbh, hcop⟩, hb2⟩
    have HB2 : Hid (Below w1.heap.size w1 w2) := hb2
    have HR2 : Hid (RowP w2 g Qs) := hrow
    have HLn : Hid (Qs.length = n + 1) := hlen
    have HBh : Hid ((pd Qs n).name = behind) := hbh
    have HCp : Hid (∀ i, i < n → ∃ G, pd Qs i = cpP (pd Ps i) G ∧ KeysAt w2 (some ⟨G, 0, none⟩) (pd Ps i).L) := hcop
    have HLk : Hid (∀ i, i < Ps.length → LikeP (pd (Qs.take n) i) (pd Ps i)) := fun i hi => by
      have hi' : i < n := by have := HN.out; omega
      obtain ⟨G, e, _⟩ := HCp.out i hi'
      rw [pd_takeD _ _ _ hi', e]
      exact ⟨rfl, rfl, rfl, rfl⟩
    have HTl : Hid ((Qs.take n).length = n) := by rw [List.length_take, HLn.out]; show _ = _; omega
    have HCc : Hid (checkN (Qs.take n) = checkN Ps) := check_congr (by rw [HTl.out]; exact HN.out) HLk.out
    have HL2 : Hid (LibAt w2 (some ⟨g, 0, none⟩) (Qs.take n)) := by
      refine ⟨HR2.out.procs.take n, fun x hx => ?_⟩
      obtain ⟨i, hi, rfl⟩ := List.mem_iff_getElem.1 hx
      have hi' : i < n := by have := HTl.out; omega
      obtain ⟨G, e, hk⟩ := HCp.out i hi'
      have hp := H.out.ok _ (pd_mem (Ps := Ps) (j := i) (by have := HN.out; omega))
      have e2 : (Qs.take n)[i] = cpP (pd Ps i) G := by
        rw [← e, ← pd_takeD Qs i n hi']; simp only [pd, List.getD_eq_getElem?_getD, List.getElem?_eq_getElem hi]; rfl
      rw [e2]
      exact ⟨hp.len, hk, hp.nin, hp.kin, (fun e => by cases e), hp.str, hp.big⟩
    clear hrow hlen hbh hcop hb2
    go_wp2_with fail
    refine (check_any w2 _ n (n + 1) (Qs.take n) HL2.out HTl.out.symm (by omega) hm).mono ?_
    rintro e w3 ⟨rfl, hb3⟩
    have HB3 : Hid (Below w2.heap.size w2 w3) := hb3
    rw [HCc.out]
    clear hb3
    go_wp2_with fail
    refine (refCheck_any w3 ao n cap Ps (H.out.kept (HB2.out.trans (HB3.out.mono HB2.out.size))) HN.out hm).mono ?_
    rintro e w4 ⟨rfl, hb4⟩
    have HB4 : Hid (Below w2.heap.size w2 w4) := HB3.out.trans (hb4.mono HB3.out.size)
    clear hb4 HB3
    have HW4 : Hid (Below w1.heap.size w1 w4) := HB2.out.trans (HB4.out.mono HB2.out.size)
    generalize (checkN Ps).1 = k1 at *
    generalize (checkN Ps).2 = k2 at *
    go_wp2_with fail
    refine (sameLibrary_eq w4 (some ⟨g, 0, none⟩) ao n (n + 1) cap (Qs.take n) Ps (HL2.out.at_.kept HB4.out) (H.out.at_.kept HW4.out) HN.out HTl.out.symm hm (fun i hi => by
      have hi' : i < Ps.length := by have := HN.out; omega
      have hp := (H.out.ok _ (pd_mem hi')).kept HW4.out
      have hq := (HL2.out.ok _ (pd_mem (Ps := Qs.take n) (j := i) (by have := HTl.out; omega))).kept HB4.out
      exact ⟨HLk.out i hi', hq.ks, hp.ks, hp.len, by have := hp.big; omega⟩)).mono ?_
    rintro e w5 ⟨rfl, g5⟩
    have HB5 : Hid (Below w1.heap.size w1 w5) := HW4.out.trans ((Grew.below g5).mono HW4.out.size)
    obtain ⟨_, _, e, s0, _⟩ := (HR2.out.kept (HB4.out.trans ((Grew.below g5).mono HB4.out.size))).procs.get n (by have := HLn.out; omega)
    cases e
    rw [HBh.out, Nat.zero_add] at s0
    have hq : (behind.toList == [98, 101, 104, 105, 110, 100]) = true := by decide +kernel
    unfold behind at s0 hq
    clear g5
    go_wp2
    go_ret
    exact ⟨rfl, HB5.out⟩
end Go.Proofs.Ytjmlogljfboleaa
