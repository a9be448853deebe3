import Derived.Test.YtbpgafchagpmoaaJXDriven
import Derived.Deep.RegionHeld3
import Derived.Deep.DeepCutAuto
/-
  VmSteps: THE WALK.
-/
namespace Go.Proofs.Ytbpgafchagpmoaa
open Go.RowKit Go.Sort

abbrev cdV (D : CD) : Value := callV D.p D.ao D.n D.cap D.aa D.na D.ca D.ra D.nr D.cr
abbrev cdO (D : CD) : Obj := .cells #[.int .i64 D.p.args, .int .i64 D.p.reads, .int .i64 D.p.writes, .int .i64 D.p.locals, .slice D.ao D.n D.cap, .slice D.aa D.na D.ca, .slice D.ra D.nr D.cr] 28
abbrev st5 (w : World) (Ds : Nat → CD) : World := ((((w.alloc (cdO (Ds 0))).alloc (cdO (Ds 1))).alloc (.cells #[.int .i64 (Ds 0).p.args, .int .i64 (Ds 0).p.reads, .int .i64 (Ds 0).p.writes, .int .i64 (Ds 0).p.locals, .slice (Ds 0).ao (Ds 0).n (Ds 0).cap, .slice (Ds 0).aa (Ds 0).na (Ds 0).ca, .slice (Ds 0).ra (Ds 0).nr (Ds 0).cr, .int .i64 (Ds 1).p.args, .int .i64 (Ds 1).p.reads, .int .i64 (Ds 1).p.writes, .int .i64 (Ds 1).p.locals, .slice (Ds 1).ao (Ds 1).n (Ds 1).cap, .slice (Ds 1).aa (Ds 1).na (Ds 1).ca, .slice (Ds 1).ra (Ds 1).nr (Ds 1).cr] 43)).alloc (.cells #[.pointer none, .pointer none] 45)).alloc (.cells #[.pointer none, .pointer none] 47)
theorem i64_and7 (n : Int) : bits .and .i64 n 7 = n % 8 := by
  have h1 : (BitVec.ofInt 64 n &&& BitVec.ofInt 64 7).toNat = (BitVec.ofInt 64 n).toNat % 8 := by
    rw [BitVec.toNat_and]
    have : (BitVec.ofInt 64 7).toNat = 2 ^ 3 - 1 := by decide
    rw [this, Nat.and_two_pow_sub_one_eq_mod]
  have h2 : (BitVec.ofInt 64 n).toNat = (n % 18446744073709551616).toNat := by simp [BitVec.toNat_ofInt]
  show IntKind.wrap .i64 ((BitVec.ofInt 64 n &&& BitVec.ofInt 64 7).toNat : Int) = n % 8
  rw [h1, h2]
  simp only [IntKind.wrap, IntKind.bits, IntKind.signed]
  simp
  omega
theorem VS.start (w : World) (Ds : Nat → CD) : VS w (st5 w Ds) Ds (fun _ => .pointer none) (fun _ => .pointer none) (fun _ _ => False) :=
  ⟨(((((Below.refl _ _).alloc (Nat.le_refl _) _).alloc (by simp) _).alloc (by simp; omega) _).alloc (by simp; omega) _).alloc (by simp; omega) _,
   (heap_alloc_old _ _ (by simp)).trans ((heap_alloc_old _ _ (by simp)).trans (heap_alloc_new _ _ (by simp))),
   (heap_alloc_old _ _ (by simp)).trans (heap_alloc_new _ _ (by simp)), heap_alloc_new _ _ (by simp),
   fun _ _ => .inl ⟨rfl, rfl, fun _ h => h⟩, fun _ _ _ _ _ _ h => h.elim, fun _ _ _ h => h.elim, by simp⟩
set_option maxRecDepth 100000 in
set_option maxHeartbeats 8000000 in
theorem steps_walk (w : World) (Ds : Nat → CD) (hin : ∀ i, i < 2 → (Ds i).In w) (his : ∀ i, i < 2 → Ins (Ds i).L (Ds i).A (Ds i).R) (hl : ∀ i, i < 2 → (Ds i).n ≤ 140737488355328 ∧ (Ds i).na ≤ 140737488355328 ∧ (Ds i).nr ≤ 140737488355328)
    (hgv : ∀ i, i < 2 → ∀ W, (Ds i).In W → Calls Try.prog 9 #[cdV (Ds i)] W fun e w' => GivenPost W (Ds i).p (Ds i).n (Ds i).na (Ds i).nr (Ds i).L (Ds i).A (Ds i).R e w')
    (qa : Option Addr) (lq cq : Nat) (Q : List Int) (hq : SlIn w qa lq cq (Q.map iv)) (hnq : lq = Q.length) (hqb : lq ≤ 140737488355328) :
    Calls Try.prog 4 #[cdV (Ds 0), cdV (Ds 1), .slice qa lq cq] w fun e w' => e = .returned (.bool true) ∧ Go.RowKit.Below w.heap.size w w' := by
  have HIn : Hid (∀ i, i < 2 → (Ds i).In w) := hin
  have HIs : Hid (∀ i, i < 2 → Ins (Ds i).L (Ds i).A (Ds i).R) := his
  have HL : Hid (∀ i, i < 2 → (Ds i).n ≤ 140737488355328 ∧ (Ds i).na ≤ 140737488355328 ∧ (Ds i).nr ≤ 140737488355328) := hl
  have HGv : Hid (∀ i, i < 2 → ∀ W, (Ds i).In W → Calls Try.prog 9 #[cdV (Ds i)] W fun e w' => GivenPost W (Ds i).p (Ds i).n (Ds i).na (Ds i).nr (Ds i).L (Ds i).A (Ds i).R e w') := hgv
  have HQ : Hid (CellsAt w qa (Q.map iv)) := hq.at_
  have HNq : Hid (lq = Q.length) := hnq
  have HV : Hid (∃ vs rf Xs, VS w (st5 w Ds) Ds vs rf Xs) := ⟨_, _, _, VS.start w Ds⟩
  clear hin his hl hgv hq hnq
  go_enter Try.func4, Try.ntmps4
  go_upto_region 4 with fail
  go_wp2_with fail
  go_loopw [10] (fun x wr => ∃ i : Nat, i ≤ 2 ∧ x = .int .i64 (i : Int) ∧ Hid (∃ vs rf Xs, VS w wr Ds vs rf Xs)) (fun x _ => 2 - (intOf x).toNat)
  case atStart => exact ⟨0, by omega, rfl, HV⟩
  case round =>
    clear HV
    obtain ⟨i, hi, rfl, HV⟩ := hrel
    by_cases hlt : i < 2
    · obtain ⟨vs, rf, Xs, hvs⟩ := HV.out
      have HVs : Hid (VS w wr Ds vs rf Xs) := hvs
      have HG := HGv.out i hlt wr ((HIn.out i hlt).kept hvs.bel)
      obtain ⟨z0, z1, z2, z3, z4, z5, z6⟩ := hvs.call hlt
      clear hvs HV
      go_wp2_with fail
      refine HG.mono ?_
      rintro e w1 ⟨g4, k4, g5, k5, g6, k6, rfl, s4, s5, s6, hb1⟩
      have hbA : Go.RowKit.Below w1.heap.size w1 (w1.alloc (cQ (Ds i).p (.slice (some ⟨g4, 0, none⟩) (Ds i).n k4) (.slice (some ⟨g5, 0, none⟩) (Ds i).na k5) (.slice (some ⟨g6, 0, none⟩) (Ds i).nr k6))) := (Below.refl _ _).alloc (Nat.le_refl _) _
      have HB2 : Hid (Go.RowKit.Below wr.heap.size wr (w1.alloc (cQ (Ds i).p (.slice (some ⟨g4, 0, none⟩) (Ds i).n k4) (.slice (some ⟨g5, 0, none⟩) (Ds i).na k5) (.slice (some ⟨g6, 0, none⟩) (Ds i).nr k6)))) := hb1.trans (hbA.mono hb1.size)
      have hwi : Go.RowKit.Below w.heap.size w (w1.alloc (cQ (Ds i).p (.slice (some ⟨g4, 0, none⟩) (Ds i).n k4) (.slice (some ⟨g5, 0, none⟩) (Ds i).na k5) (.slice (some ⟨g6, 0, none⟩) (Ds i).nr k6))) := HVs.out.bel.trans (HB2.out.mono HVs.out.bel.size)
      have HCd : Hid (CB (w1.alloc (cQ (Ds i).p (.slice (some ⟨g4, 0, none⟩) (Ds i).n k4) (.slice (some ⟨g5, 0, none⟩) (Ds i).na k5) (.slice (some ⟨g6, 0, none⟩) (Ds i).nr k6))) w1.heap.size (Ds i).p (.slice (some ⟨g4, 0, none⟩) (Ds i).n k4) (.slice (some ⟨g5, 0, none⟩) (Ds i).na k5) (.slice (some ⟨g6, 0, none⟩) (Ds i).nr k6)) := heap_alloc_new _ _ rfl
      have HIc : Hid ((Ds i).In (w1.alloc (cQ (Ds i).p (.slice (some ⟨g4, 0, none⟩) (Ds i).n k4) (.slice (some ⟨g5, 0, none⟩) (Ds i).na k5) (.slice (some ⟨g6, 0, none⟩) (Ds i).nr k6)))) := (HIn.out i hlt).kept hwi
      have HId : Hid (CallIn (w1.alloc (cQ (Ds i).p (.slice (some ⟨g4, 0, none⟩) (Ds i).n k4) (.slice (some ⟨g5, 0, none⟩) (Ds i).na k5) (.slice (some ⟨g6, 0, none⟩) (Ds i).nr k6))) (Ds i).p (some ⟨g4, 0, none⟩) (Ds i).n k4 (Ds i).L (some ⟨g5, 0, none⟩) (Ds i).na k5 (Ds i).A (some ⟨g6, 0, none⟩) (Ds i).nr k6 (Ds i).R) := d_call (HIn.out i hlt) (s4.grow hbA) (s5.grow hbA) (s6.grow hbA)
      have HKi : Hid (KI (w1.alloc (cQ (Ds i).p (.slice (some ⟨g4, 0, none⟩) (Ds i).n k4) (.slice (some ⟨g5, 0, none⟩) (Ds i).na k5) (.slice (some ⟨g6, 0, none⟩) (Ds i).nr k6))) (Ds i).n (Ds i).na (Ds i).nr (Ds i).L (Ds i).A (Ds i).R (Ds i).ao (Ds i).aa (Ds i).ra g4 g5 g6) := d_ki HIc.out (s4.grow hbA) (s5.grow hbA) (s6.grow hbA)
      have HKk : Hid ((Ds i).n + 1 ≤ k4 ∧ (Ds i).na + 1 ≤ k5 ∧ (Ds i).nr + 1 ≤ k6) := ⟨s4.1, s5.1, s6.1⟩
      have HSl : Hid (SL (w1.alloc (cQ (Ds i).p (.slice (some ⟨g4, 0, none⟩) (Ds i).n k4) (.slice (some ⟨g5, 0, none⟩) (Ds i).na k5) (.slice (some ⟨g6, 0, none⟩) (Ds i).nr k6))) wr.heap.size 66 2 g4 (Ds i).n k4 (cks (Ds i).L ++ mk4) ∧ SL (w1.alloc (cQ (Ds i).p (.slice (some ⟨g4, 0, none⟩) (Ds i).n k4) (.slice (some ⟨g5, 0, none⟩) (Ds i).na k5) (.slice (some ⟨g6, 0, none⟩) (Ds i).nr k6))) wr.heap.size 2 1 g5 (Ds i).na k5 ((Ds i).A.map iv ++ mk5) ∧ SL (w1.alloc (cQ (Ds i).p (.slice (some ⟨g4, 0, none⟩) (Ds i).n k4) (.slice (some ⟨g5, 0, none⟩) (Ds i).na k5) (.slice (some ⟨g6, 0, none⟩) (Ds i).nr k6))) wr.heap.size 64 2 g6 (Ds i).nr k6 (ccs (Ds i).R ++ mk6)) := ⟨s4.grow hbA, s5.grow hbA, s6.grow hbA⟩
      clear hb1 hbA hwi HG s4 s5 s6 z0 z1 z2 z3 z4 z5 z6
      go_upto_region 8 with fail
      generalize w1.alloc (cQ (Ds i).p (.slice (some ⟨g4, 0, none⟩) (Ds i).n k4) (.slice (some ⟨g5, 0, none⟩) (Ds i).na k5) (.slice (some ⟨g6, 0, none⟩) (Ds i).nr k6)) = W2 at *
      generalize w1.heap.size = bd at *
      have HN := new_any W2 (Ds i).p (some ⟨g4, 0, none⟩) (Ds i).n k4 (Ds i).L (some ⟨g5, 0, none⟩) (Ds i).na k5 (Ds i).A (some ⟨g6, 0, none⟩) (Ds i).nr k6 (Ds i).R HId.out
      obtain ⟨x0, x1, x2, x3, x4, x5, x6⟩ := HCd.out.cells
      go_wp2_with fail
      refine HN.mono ?_
      rintro e w3 ⟨hp3, hb3⟩
      have HB23 : Hid (Go.RowKit.Below W2.heap.size W2 w3) := hb3
      have HB3 : Hid (Go.RowKit.Below wr.heap.size wr w3) := HB2.out.trans (hb3.mono HB2.out.size)
      have HCx : Hid (∀ W, Go.RowKit.Below wr.heap.size wr W → W.cell? ⟨w.heap.size + 1 + 1, i * 7, none⟩ = some (.int .i64 (Ds i).p.args) ∧ W.cell? ⟨w.heap.size + 1 + 1, i * 7 + 1, none⟩ = some (.int .i64 (Ds i).p.reads) ∧ W.cell? ⟨w.heap.size + 1 + 1, i * 7 + 2, none⟩ = some (.int .i64 (Ds i).p.writes) ∧ W.cell? ⟨w.heap.size + 1 + 1, i * 7 + 3, none⟩ = some (.int .i64 (Ds i).p.locals) ∧ W.cell? ⟨w.heap.size + 1 + 1, i * 7 + 4, none⟩ = some (.slice (Ds i).ao (Ds i).n (Ds i).cap) ∧ W.cell? ⟨w.heap.size + 1 + 1, i * 7 + 5, none⟩ = some (.slice (Ds i).aa (Ds i).na (Ds i).ca) ∧ W.cell? ⟨w.heap.size + 1 + 1, i * 7 + 6, none⟩ = some (.slice (Ds i).ra (Ds i).nr (Ds i).cr)) := fun W hb => (HVs.out.kept hb).call hlt
      have HDx : Hid (∀ W, Go.RowKit.Below W2.heap.size W2 W → W.cell? ⟨bd, 0, none⟩ = some (.int .i64 (Ds i).p.args) ∧ W.cell? ⟨bd, 1, none⟩ = some (.int .i64 (Ds i).p.reads) ∧ W.cell? ⟨bd, 2, none⟩ = some (.int .i64 (Ds i).p.writes) ∧ W.cell? ⟨bd, 3, none⟩ = some (.int .i64 (Ds i).p.locals) ∧ W.cell? ⟨bd, 4, none⟩ = some (.slice (some ⟨g4, 0, none⟩) (Ds i).n k4) ∧ W.cell? ⟨bd, 5, none⟩ = some (.slice (some ⟨g5, 0, none⟩) (Ds i).na k5) ∧ W.cell? ⟨bd, 6, none⟩ = some (.slice (some ⟨g6, 0, none⟩) (Ds i).nr k6)) := fun W hb => (HCd.out.below hb HCd.out.lt).cells
      have hwd : Go.RowKit.Below W2.heap.size W2 w3.drew := hb3.trans (((Grew.refl w3).drewN 1).below.mono hb3.size)
      have HR := rnew_any w3.drew (Ds i).p (Ds i).ao (Ds i).n (Ds i).cap (Ds i).L (Ds i).aa (Ds i).na (Ds i).ca (Ds i).A (Ds i).ra (Ds i).nr (Ds i).cr (Ds i).R (HIc.out.kept hwd)
      obtain ⟨z0, z1, z2, z3, z4, z5, z6⟩ := HCx.out w3 HB3.out
      clear x0 x1 x2 x3 x4 x5 x6 hb3 hwd HN HId HIc
      by_cases hne : newE (Ds i).p (Ds i).L (Ds i).A (Ds i).R = 0
      · rcases hp3 with ⟨hx, _⟩ | ⟨_, B, Z, rfl, hB, hms⟩
        · exact absurd hne hx
        have HM : Hid (MSt w3 (fun k => k < W2.heap.size) B Z (Ds i).L (Ds i).A (Ds i).R (startM (Ds i).p)) := hms
        clear hms hB
        go_upto_region 9 with fail
        go_region_held3 (fun w' => w'.cell? ⟨w.heap.size + 1 + 1, i * 7, none⟩ = some (.int .i64 (Ds i).p.args) ∧ w'.cell? ⟨w.heap.size + 1 + 1, i * 7 + 1, none⟩ = some (.int .i64 (Ds i).p.reads) ∧ w'.cell? ⟨w.heap.size + 1 + 1, i * 7 + 2, none⟩ = some (.int .i64 (Ds i).p.writes) ∧ w'.cell? ⟨w.heap.size + 1 + 1, i * 7 + 3, none⟩ = some (.int .i64 (Ds i).p.locals) ∧ w'.cell? ⟨w.heap.size + 1 + 1, i * 7 + 4, none⟩ = some (.slice (Ds i).ao (Ds i).n (Ds i).cap) ∧ w'.cell? ⟨w.heap.size + 1 + 1, i * 7 + 5, none⟩ = some (.slice (Ds i).aa (Ds i).na (Ds i).ca) ∧ w'.cell? ⟨w.heap.size + 1 + 1, i * 7 + 6, none⟩ = some (.slice (Ds i).ra (Ds i).nr (Ds i).cr)) (first | exact HCx.out _ HB4.out | go_keep) (first | (go_at_call 16; refine HR.mono ?_; rintro e w4 ⟨hp4, hb4⟩; have HB34 : Hid (Go.RowKit.Below w3.heap.size w3 w4) := ((Grew.refl w3).drewN 1).below.trans hb4; have HB4 : Hid (Go.RowKit.Below wr.heap.size wr w4) := HB3.out.trans (HB34.out.mono HB3.out.size); clear hb4; rcases hp4 with ⟨hx, _⟩ | ⟨_, Br, rfl, _, hmr⟩; (exact absurd hne hx); have HMr : Hid (MRt w4 (fun k => k < w3.heap.size) Br (Ds i).mc (dnM (Ds i).L.length (startM (Ds i).p))) := hmr; clear hmr))
        clear z0 z1 z2 z3 z4 z5 z6 HR
        have HB24 : Hid (Go.RowKit.Below W2.heap.size W2 w4) := HB23.out.trans (HB34.out.mono HB23.out.size)
        have hwd : Go.RowKit.Below W2.heap.size W2 w4.drew := HB24.out.trans (((Grew.refl w4).drewN 1).below.mono HB24.out.size)
        have HKp := kept_any w4.drew (Ds i).p (Ds i).n (Ds i).na (Ds i).nr (Ds i).L (Ds i).A (Ds i).R (Ds i).ao (Ds i).aa (Ds i).ra g4 g5 g6 k4 k5 k6 (Ds i).cap (Ds i).ca (Ds i).cr (HKi.out.below hwd) HKk.out.1 HKk.out.2.1 HKk.out.2.2 (HL.out i hlt).1 (HL.out i hlt).2.1 (HL.out i hlt).2.2
        obtain ⟨z0, z1, z2, z3, z4, z5, z6⟩ := HCx.out w4 HB4.out
        obtain ⟨x0, x1, x2, x3, x4, x5, x6⟩ := HDx.out w4 HB24.out
        clear hwd
        go_upto_region 10 with fail
        go_region_held3 (fun w' => (w'.cell? ⟨bd, 0, none⟩ = some (.int .i64 (Ds i).p.args) ∧ w'.cell? ⟨bd, 1, none⟩ = some (.int .i64 (Ds i).p.reads) ∧ w'.cell? ⟨bd, 2, none⟩ = some (.int .i64 (Ds i).p.writes) ∧ w'.cell? ⟨bd, 3, none⟩ = some (.int .i64 (Ds i).p.locals) ∧ w'.cell? ⟨bd, 4, none⟩ = some (.slice (some ⟨g4, 0, none⟩) (Ds i).n k4) ∧ w'.cell? ⟨bd, 5, none⟩ = some (.slice (some ⟨g5, 0, none⟩) (Ds i).na k5) ∧ w'.cell? ⟨bd, 6, none⟩ = some (.slice (some ⟨g6, 0, none⟩) (Ds i).nr k6)) ∧ w'.cell? ⟨w.heap.size + 1 + 1, i * 7, none⟩ = some (.int .i64 (Ds i).p.args) ∧ w'.cell? ⟨w.heap.size + 1 + 1, i * 7 + 1, none⟩ = some (.int .i64 (Ds i).p.reads) ∧ w'.cell? ⟨w.heap.size + 1 + 1, i * 7 + 2, none⟩ = some (.int .i64 (Ds i).p.writes) ∧ w'.cell? ⟨w.heap.size + 1 + 1, i * 7 + 3, none⟩ = some (.int .i64 (Ds i).p.locals) ∧ w'.cell? ⟨w.heap.size + 1 + 1, i * 7 + 4, none⟩ = some (.slice (Ds i).ao (Ds i).n (Ds i).cap) ∧ w'.cell? ⟨w.heap.size + 1 + 1, i * 7 + 5, none⟩ = some (.slice (Ds i).aa (Ds i).na (Ds i).ca) ∧ w'.cell? ⟨w.heap.size + 1 + 1, i * 7 + 6, none⟩ = some (.slice (Ds i).ra (Ds i).nr (Ds i).cr)) (first | exact ⟨HDx.out _ HB25.out, HCx.out _ HB5.out⟩ | go_keep) (first | (go_at_call 13; refine HKp.mono ?_; rintro e w5 ⟨rfl, hb5⟩; have HB45 : Hid (Go.RowKit.Below w4.heap.size w4 w5) := ((Grew.refl w4).drewN 1).below.trans hb5; have HB5 : Hid (Go.RowKit.Below wr.heap.size wr w5) := HB4.out.trans (HB45.out.mono HB4.out.size); have HB25 : Hid (Go.RowKit.Below W2.heap.size W2 w5) := HB24.out.trans (HB45.out.mono HB24.out.size); clear hb5))
        clear z0 z1 z2 z3 z4 z5 z6 x0 x1 x2 x3 x4 x5 x6 HKp
        obtain ⟨x0, x1, x2, x3, x4, x5, x6⟩ := HDx.out w5 HB25.out
        have HSp := spoil_any w5 (Ds i).p (Ds i).n (Ds i).na (Ds i).nr g4 k4 g5 k5 g6 k6 wr.heap.size _ _ _ (HSl.out.1.grow HB25.out) (HSl.out.2.1.grow HB25.out) (HSl.out.2.2.grow HB25.out) (HL.out i hlt).1 (HL.out i hlt).2.1 (HL.out i hlt).2.2
        go_wp2_with fail
        refine HSp.mono ?_
        rintro e w6 ⟨rfl, hf6⟩
        have q4 : wr.heap.size ≤ g4 ∧ g4 < W2.heap.size := World.ownsRow.lt HSl.out.1.2 g4 rfl
        have q5 : wr.heap.size ≤ g5 ∧ g5 < W2.heap.size := World.ownsRow.lt HSl.out.2.1.2 g5 rfl
        have q6 : wr.heap.size ≤ g6 ∧ g6 < W2.heap.size := World.ownsRow.lt HSl.out.2.2.2 g6 rfl
        have HB6 : Hid (Go.RowKit.Below wr.heap.size wr w6) := ⟨hf6.os.trans HB5.out.os, hf6.tape.trans HB5.out.tape, hf6.output.trans HB5.out.output, Nat.le_trans HB5.out.size hf6.size, fun k hk => (hf6.block k ⟨Nat.lt_of_lt_of_le hk HB5.out.size, by omega, by omega, by omega⟩).trans (HB5.out.block k hk)⟩
        have HF : Hid (∃ vs rf Xs, VS w ((w6.setCell ⟨w.heap.size + 1 + 1 + 1, i, none⟩ (pm B)).setCell ⟨w.heap.size + 1 + 1 + 1 + 1, i, none⟩ (pm Br)) Ds vs rf Xs) := by
          obtain ⟨hv, hfed, _⟩ := newE_zero hne
          obtain ⟨d, hs⟩ := sound_of hv
          exact ⟨_, _, _, HVs.out.fill hlt HB6.out (X' := fun k => W2.heap.size ≤ k ∧ k < w4.heap.size) (fun k hk => ⟨Nat.le_trans HB2.out.size hk.1, Nat.lt_of_lt_of_le hk.2 (Nat.le_trans HB45.out.size hf6.size)⟩) (.inr ⟨B, Br, Z, d, _, rfl, rfl, ⟨hs, hfed, rfl, HIs.out i hlt⟩, pair_made (HIn.out i hlt) HVs.out.bel HB2.out HM.out HB23.out HMr.out HB34.out HB45.out hf6 q4 q5 q6 hs⟩)⟩
        obtain ⟨y8, y9⟩ := (HVs.out.kept HB6.out).cells hlt
        have f8 := frozen_of_row w6 _ i _ _ (HVs.out.kept HB6.out).ms
        have f9 := frozen_of_row w6 _ i _ _ (HVs.out.kept HB6.out).rs
        clear q4 q5 q6 hf6 HSp x0 x1 x2 x3 x4 x5 x6
        go_wp2
        go_roundw
        case rel => exact ⟨i + 1, by omega, by go_num, HF⟩
        case measure => simp [intOf]; omega
      · rcases hp3 with ⟨_, rfl⟩ | ⟨hx, _⟩
        rotate_left
        · exact absurd hx hne
        go_upto_region 9 with fail
        go_region_held3 (fun w' => w'.cell? ⟨w.heap.size + 1 + 1, i * 7, none⟩ = some (.int .i64 (Ds i).p.args) ∧ w'.cell? ⟨w.heap.size + 1 + 1, i * 7 + 1, none⟩ = some (.int .i64 (Ds i).p.reads) ∧ w'.cell? ⟨w.heap.size + 1 + 1, i * 7 + 2, none⟩ = some (.int .i64 (Ds i).p.writes) ∧ w'.cell? ⟨w.heap.size + 1 + 1, i * 7 + 3, none⟩ = some (.int .i64 (Ds i).p.locals) ∧ w'.cell? ⟨w.heap.size + 1 + 1, i * 7 + 4, none⟩ = some (.slice (Ds i).ao (Ds i).n (Ds i).cap) ∧ w'.cell? ⟨w.heap.size + 1 + 1, i * 7 + 5, none⟩ = some (.slice (Ds i).aa (Ds i).na (Ds i).ca) ∧ w'.cell? ⟨w.heap.size + 1 + 1, i * 7 + 6, none⟩ = some (.slice (Ds i).ra (Ds i).nr (Ds i).cr)) (first | exact HCx.out _ HB4.out | go_keep) (first | (go_at_call 16; refine HR.mono ?_; rintro e w4 ⟨hp4, hb4⟩; have HB34 : Hid (Go.RowKit.Below w3.heap.size w3 w4) := ((Grew.refl w3).drewN 1).below.trans hb4; have HB4 : Hid (Go.RowKit.Below wr.heap.size wr w4) := HB3.out.trans (HB34.out.mono HB3.out.size); clear hb4; rcases hp4 with ⟨_, rfl⟩ | ⟨hx, _⟩; rotate_left; (exact absurd hx hne)))
        clear z0 z1 z2 z3 z4 z5 z6 HR
        have HB24 : Hid (Go.RowKit.Below W2.heap.size W2 w4) := HB23.out.trans (HB34.out.mono HB23.out.size)
        have hwd : Go.RowKit.Below W2.heap.size W2 w4.drew := HB24.out.trans (((Grew.refl w4).drewN 1).below.mono HB24.out.size)
        have HKp := kept_any w4.drew (Ds i).p (Ds i).n (Ds i).na (Ds i).nr (Ds i).L (Ds i).A (Ds i).R (Ds i).ao (Ds i).aa (Ds i).ra g4 g5 g6 k4 k5 k6 (Ds i).cap (Ds i).ca (Ds i).cr (HKi.out.below hwd) HKk.out.1 HKk.out.2.1 HKk.out.2.2 (HL.out i hlt).1 (HL.out i hlt).2.1 (HL.out i hlt).2.2
        obtain ⟨z0, z1, z2, z3, z4, z5, z6⟩ := HCx.out w4 HB4.out
        obtain ⟨x0, x1, x2, x3, x4, x5, x6⟩ := HDx.out w4 HB24.out
        clear hwd
        go_upto_region 10 with fail
        go_region_held3 (fun w' => (w'.cell? ⟨bd, 0, none⟩ = some (.int .i64 (Ds i).p.args) ∧ w'.cell? ⟨bd, 1, none⟩ = some (.int .i64 (Ds i).p.reads) ∧ w'.cell? ⟨bd, 2, none⟩ = some (.int .i64 (Ds i).p.writes) ∧ w'.cell? ⟨bd, 3, none⟩ = some (.int .i64 (Ds i).p.locals) ∧ w'.cell? ⟨bd, 4, none⟩ = some (.slice (some ⟨g4, 0, none⟩) (Ds i).n k4) ∧ w'.cell? ⟨bd, 5, none⟩ = some (.slice (some ⟨g5, 0, none⟩) (Ds i).na k5) ∧ w'.cell? ⟨bd, 6, none⟩ = some (.slice (some ⟨g6, 0, none⟩) (Ds i).nr k6)) ∧ w'.cell? ⟨w.heap.size + 1 + 1, i * 7, none⟩ = some (.int .i64 (Ds i).p.args) ∧ w'.cell? ⟨w.heap.size + 1 + 1, i * 7 + 1, none⟩ = some (.int .i64 (Ds i).p.reads) ∧ w'.cell? ⟨w.heap.size + 1 + 1, i * 7 + 2, none⟩ = some (.int .i64 (Ds i).p.writes) ∧ w'.cell? ⟨w.heap.size + 1 + 1, i * 7 + 3, none⟩ = some (.int .i64 (Ds i).p.locals) ∧ w'.cell? ⟨w.heap.size + 1 + 1, i * 7 + 4, none⟩ = some (.slice (Ds i).ao (Ds i).n (Ds i).cap) ∧ w'.cell? ⟨w.heap.size + 1 + 1, i * 7 + 5, none⟩ = some (.slice (Ds i).aa (Ds i).na (Ds i).ca) ∧ w'.cell? ⟨w.heap.size + 1 + 1, i * 7 + 6, none⟩ = some (.slice (Ds i).ra (Ds i).nr (Ds i).cr)) (first | exact ⟨HDx.out _ HB25.out, HCx.out _ HB5.out⟩ | go_keep) (first | (go_at_call 13; refine HKp.mono ?_; rintro e w5 ⟨rfl, hb5⟩; have HB45 : Hid (Go.RowKit.Below w4.heap.size w4 w5) := ((Grew.refl w4).drewN 1).below.trans hb5; have HB5 : Hid (Go.RowKit.Below wr.heap.size wr w5) := HB4.out.trans (HB45.out.mono HB4.out.size); have HB25 : Hid (Go.RowKit.Below W2.heap.size W2 w5) := HB24.out.trans (HB45.out.mono HB24.out.size); clear hb5))
        clear z0 z1 z2 z3 z4 z5 z6 x0 x1 x2 x3 x4 x5 x6 HKp
        obtain ⟨x0, x1, x2, x3, x4, x5, x6⟩ := HDx.out w5 HB25.out
        have HSp := spoil_any w5 (Ds i).p (Ds i).n (Ds i).na (Ds i).nr g4 k4 g5 k5 g6 k6 wr.heap.size _ _ _ (HSl.out.1.grow HB25.out) (HSl.out.2.1.grow HB25.out) (HSl.out.2.2.grow HB25.out) (HL.out i hlt).1 (HL.out i hlt).2.1 (HL.out i hlt).2.2
        go_wp2_with fail
        refine HSp.mono ?_
        rintro e w6 ⟨rfl, hf6⟩
        have q4 : wr.heap.size ≤ g4 ∧ g4 < W2.heap.size := World.ownsRow.lt HSl.out.1.2 g4 rfl
        have q5 : wr.heap.size ≤ g5 ∧ g5 < W2.heap.size := World.ownsRow.lt HSl.out.2.1.2 g5 rfl
        have q6 : wr.heap.size ≤ g6 ∧ g6 < W2.heap.size := World.ownsRow.lt HSl.out.2.2.2 g6 rfl
        have HB6 : Hid (Go.RowKit.Below wr.heap.size wr w6) := ⟨hf6.os.trans HB5.out.os, hf6.tape.trans HB5.out.tape, hf6.output.trans HB5.out.output, Nat.le_trans HB5.out.size hf6.size, fun k hk => (hf6.block k ⟨Nat.lt_of_lt_of_le hk HB5.out.size, by omega, by omega, by omega⟩).trans (HB5.out.block k hk)⟩
        have HF : Hid (∃ vs rf Xs, VS w ((w6.setCell ⟨w.heap.size + 1 + 1 + 1, i, none⟩ (.pointer none)).setCell ⟨w.heap.size + 1 + 1 + 1 + 1, i, none⟩ (.pointer none)) Ds vs rf Xs) := ⟨_, _, _, HVs.out.fill hlt HB6.out (X' := fun _ => False) (fun _ h => h.elim) (.inl ⟨rfl, rfl, fun _ h => h⟩)⟩
        obtain ⟨y8, y9⟩ := (HVs.out.kept HB6.out).cells hlt
        have f8 := frozen_of_row w6 _ i _ _ (HVs.out.kept HB6.out).ms
        have f9 := frozen_of_row w6 _ i _ _ (HVs.out.kept HB6.out).rs
        clear q4 q5 q6 hf6 HSp x0 x1 x2 x3 x4 x5 x6
        go_wp2
        go_roundw
        case rel => exact ⟨i + 1, by omega, by go_num, HF⟩
        case measure => simp [intOf]; omega
    · obtain rfl : i = 2 := by omega
      obtain ⟨vs, rf, Xs0, hv0⟩ := HV.out
      have HW : Hid (∃ Xs, VS w wr Ds vs rf Xs) := ⟨_, hv0⟩
      have HAsk : Hid (∀ (k : Nat) (a : Int), k < 2 → 0 ≤ a → rf k ≠ .pointer none → ∀ W, (∃ Xs, VS w W Ds vs rf Xs) → Calls Try.prog 18 #[vs k, rf k, .int .i64 a] W fun e w' => e = .returned (.bool true) ∧ ∃ Xs', VS w w' Ds vs rf Xs') := fun k a hk ha hn W ⟨_, hx⟩ => hx.ask hk hn a ha
      have HPt : Hid (∀ k, k < 2 → rf k = .pointer none ∨ ∃ B Br, vs k = pm B ∧ rf k = pm Br) := fun k hk => by
        rcases hv0.s k hk with ⟨_, h, _⟩ | ⟨B, Br, _, _, _, h1, h2, _⟩
        · exact .inl h
        · exact .inr ⟨B, Br, h1, h2⟩
      have HKp : Hid (∀ W W', (∃ Xs, VS w W Ds vs rf Xs) → Grew W W' → ∃ Xs, VS w W' Ds vs rf Xs) := fun W W' ⟨_, hx⟩ hg => ⟨_, hx.kept hg.below⟩
      have HCe : Hid (∀ W k, k < 2 → (∃ Xs, VS w W Ds vs rf Xs) → W.cell? ⟨w.heap.size + 1 + 1 + 1, k, none⟩ = some (vs k) ∧ W.cell? ⟨w.heap.size + 1 + 1 + 1 + 1, k, none⟩ = some (rf k)) := fun W k hk ⟨_, hx⟩ => hx.cells hk
      have HBe : Hid (∀ W, (∃ Xs, VS w W Ds vs rf Xs) → Go.RowKit.Below w.heap.size w W) := fun W ⟨_, hx⟩ => hx.bel
      clear hv0 HV
      rw [show ((2 : Nat) : Int) = 2 from rfl]
      go_wp2_with fail
      go_loopw [16] (fun x wr => ∃ i : Nat, i ≤ lq ∧ x = .int .i64 (i : Int) ∧ Hid (∃ Xs, VS w wr Ds vs rf Xs)) (fun x _ => lq - (intOf x).toNat)
      case atStart => exact ⟨0, Nat.zero_le _, rfl, HW⟩
      case round =>
        clear HW
        obtain ⟨i, hi, rfl, HW⟩ := hrel
        by_cases hlt : i < lq
        · have HQc : Hid (∀ W, (∃ Xs, VS w W Ds vs rf Xs) → ∃ b off, qa = some ⟨b, off, none⟩ ∧ W.cell? ⟨b, off + i, none⟩ = some (.int .i64 (Q.getD i 0))) := fun W hx => (HQ.out.below (HBe.out W hx)).get i (by have := HNq.out; omega)
          obtain ⟨ab, ao, rfl, qc⟩ := HQc.out wr HW.out
          have HQd : Hid (∀ W, (∃ Xs, VS w W Ds vs rf Xs) → W.cell? ⟨ab, ao + i, none⟩ = some (.int .i64 (Q.getD i 0))) := fun W hx => by
            obtain ⟨_, _, e, h⟩ := HQc.out W hx
            cases e; exact h
          clear HQc
          generalize Q.getD i 0 = a at *
          obtain ⟨k, hk, hke⟩ : ∃ k : Nat, k < 2 ∧ bits .and .i64 (a / 8) 1 = (k : Int) := by rw [i64_and1]; exact ⟨((a / 8) % 2).toNat, by omega, by omega⟩
          have h7 : 0 ≤ bits .and .i64 a 7 := by rw [i64_and7]; omega
          have hk0 : (0 : Int) ≤ (k : Int) := by omega
          have hk1 : (k : Int) < 2 := by omega
          have hi0 : (0 : Int) ≤ (i : Int) := by omega
          have hi1 : (i : Int) < (lq : Int) := by omega
          go_upto_region 19 with fail
          obtain ⟨y8, y9⟩ := HCe.out wr k hk HW.out
          rcases HPt.out k hk with hp | ⟨B, Br, hv, hr⟩
          · rw [hp] at y9
            go_quiet (fail)
            go_wp2_with fail
            go_roundw
            case rel => exact ⟨i + 1, by omega, by go_num, HKp.out wr _ HW.out ((Grew.refl wr).drewN nq)⟩
            case measure => simp [intOf]; omega
          · have HA := HAsk.out k _ hk h7 (by rw [hr]; intro e; cases e) wr.drew (HKp.out wr _ HW.out ((Grew.refl wr).drewN 1))
            have HS : Hid (∀ W, (∃ Xs, VS w W Ds vs rf Xs) → W.cell? ⟨w.heap.size + 1 + 1 + 1, k, none⟩ = some (pm B) ∧ W.cell? ⟨w.heap.size + 1 + 1 + 1 + 1, k, none⟩ = some (pm Br) ∧ W.cell? ⟨ab, ao + i, none⟩ = some (.int .i64 a)) := fun W hx => by
              obtain ⟨h1, h2⟩ := HCe.out W k hk hx
              exact ⟨by rw [h1, hv], by rw [h2, hr], HQd.out W hx⟩
            rw [hv, hr] at HA
            rw [hv] at y8
            rw [hr] at y9
            clear h7 HQd
            go_region_held3 (fun w' => w'.cell? ⟨w.heap.size + 1 + 1 + 1, k, none⟩ = some (pm B) ∧ w'.cell? ⟨w.heap.size + 1 + 1 + 1 + 1, k, none⟩ = some (pm Br) ∧ w'.cell? ⟨ab, ao + i, none⟩ = some (.int .i64 a)) (first | exact HS.out _ HZ1.out | go_keep) (first | (go_at_call 18; refine HA.mono ?_; rintro e w1 ⟨rfl, hz⟩; have HZ1 : Hid (∃ Xs, VS w w1 Ds vs rf Xs) := hz; clear hz))
            go_wp2_with fail
            go_roundw
            case rel => exact ⟨i + 1, by omega, by go_num, HZ1⟩
            case measure => simp [intOf]; omega
        · obtain rfl : lq = i := by omega
          go_wp2_with fail
          go_loopw [18] (fun x wr => ∃ k : Nat, k ≤ 2 ∧ x = .int .i64 (k : Int) ∧ Hid (∃ Xs, VS w wr Ds vs rf Xs)) (fun x _ => 2 - (intOf x).toNat)
          case atStart => exact ⟨0, Nat.zero_le _, rfl, HW⟩
          case round =>
            clear HW
            obtain ⟨k, hk2, rfl, HW⟩ := hrel
            by_cases hk : k < 2
            · have hk0 : (0 : Int) ≤ (k : Int) := by omega
              have hk1 : (k : Int) < 2 := by omega
              obtain ⟨y8, y9⟩ := HCe.out wr k hk HW.out
              rcases HPt.out k hk with hp | ⟨B, Br, hv, hr⟩
              · rw [hp] at y9
                go_wp2_with fail
                go_roundw
                case rel => exact ⟨k + 1, by omega, by go_num, HW⟩
                case measure => simp [intOf]; omega
              · have HA : Hid (∀ a : Int, 0 ≤ a → ∀ W, (∃ Xs, VS w W Ds vs rf Xs) → Calls Try.prog 18 #[pm B, pm Br, .int .i64 a] W fun e w' => e = .returned (.bool true) ∧ ∃ Xs', VS w w' Ds vs rf Xs') := fun a ha W hx => by
                  have := HAsk.out k a hk ha (by rw [hr]; intro e; cases e) W hx
                  rw [hv, hr] at this
                  exact this
                have HS : Hid (∀ W, (∃ Xs, VS w W Ds vs rf Xs) → W.cell? ⟨w.heap.size + 1 + 1 + 1, k, none⟩ = some (pm B) ∧ W.cell? ⟨w.heap.size + 1 + 1 + 1 + 1, k, none⟩ = some (pm Br)) := fun W hx => by
                  obtain ⟨h1, h2⟩ := HCe.out W k hk hx
                  exact ⟨by rw [h1, hv], by rw [h2, hr]⟩
                rw [hr] at y9
                clear y8 hv hr
                go_wp2_with fail
                clear y9
                go_loopw [19] (fun x wr => ∃ n : Nat, n ≤ 300 ∧ x = .int .i64 (n : Int) ∧ Hid (∃ Xs, VS w wr Ds vs rf Xs)) (fun x _ => 300 - (intOf x).toNat)
                case atStart => exact ⟨0, Nat.zero_le _, rfl, HW⟩
                case round =>
                  clear HW
                  obtain ⟨n, hn, rfl, HW⟩ := hrel
                  by_cases hlt : n < 300
                  · have HZ0 : Hid (∃ Xs, VS w wr.drew Ds vs rf Xs) := HKp.out wr _ HW.out ((Grew.refl wr).drewN 1)
                    obtain ⟨y8, y9⟩ := HS.out wr HW.out
                    go_upto_region 28 with fail
                    go_region_held3 (fun w' => w'.cell? ⟨w.heap.size + 1 + 1 + 1, k, none⟩ = some (pm B) ∧ w'.cell? ⟨w.heap.size + 1 + 1 + 1 + 1, k, none⟩ = some (pm Br)) (first | exact HS.out _ HZ3.out | exact HS.out _ HZ2.out | exact HS.out _ HZ1.out | go_keep) (first
                      | (go_at_call 18; refine (HA.out 2 (by decide) _ HZ2.out).mono ?_; rintro e w3 ⟨rfl, hz⟩; have HZ3 : Hid (∃ Xs, VS w w3 Ds vs rf Xs) := hz; clear hz)
                      | (go_at_call 18; refine (HA.out 3 (by decide) _ HZ1.out).mono ?_; rintro e w2 ⟨rfl, hz⟩; have HZ2 : Hid (∃ Xs, VS w w2 Ds vs rf Xs) := hz; clear hz)
                      | (go_at_call 18; refine (HA.out 0 (by decide) _ HZ0.out).mono ?_; rintro e w1 ⟨rfl, hz⟩; have HZ1 : Hid (∃ Xs, VS w w1 Ds vs rf Xs) := hz; clear hz))
                    go_wp2_with fail
                    go_roundw
                    case rel => exact ⟨n + 1, by omega, by go_num, HZ3⟩
                    case measure => simp [intOf]; omega
                  · obtain rfl : n = 300 := by omega
                    rw [show ((300 : Nat) : Int) = 300 from rfl]
                    go_wp2_with fail
                    go_loopw [21] (fun x wr => ∃ a : Nat, 1 ≤ a ∧ a ≤ 6 ∧ x = .int .i64 (a : Int) ∧ Hid (∃ Xs, VS w wr Ds vs rf Xs)) (fun x _ => 6 - (intOf x).toNat)
                    case atStart => exact ⟨1, by omega, by omega, rfl, HW⟩
                    case round =>
                      clear HW
                      obtain ⟨a, ha1, ha, rfl, HW⟩ := hrel
                      by_cases hlt : a < 6
                      · have HZ0 : Hid (∃ Xs, VS w wr.drew Ds vs rf Xs) := HKp.out wr _ HW.out ((Grew.refl wr).drewN 1)
                        obtain ⟨y8, y9⟩ := HS.out wr HW.out
                        go_upto_region 34 with fail
                        go_region_held3 (fun w' => w'.cell? ⟨w.heap.size + 1 + 1 + 1, k, none⟩ = some (pm B) ∧ w'.cell? ⟨w.heap.size + 1 + 1 + 1 + 1, k, none⟩ = some (pm Br)) (first | exact HS.out _ HZ1.out | go_keep) (first
                          | (go_at_call 18; refine (HA.out (a : Int) (by omega) _ HZ0.out).mono ?_; rintro e w1 ⟨rfl, hz⟩; have HZ1 : Hid (∃ Xs, VS w w1 Ds vs rf Xs) := hz; clear hz))
                        go_wp2_with fail
                        go_roundw
                        case rel => exact ⟨a + 1, by omega, by omega, by go_num, HZ1⟩
                        case measure => simp [intOf]; omega
                      · obtain rfl : a = 6 := by omega
                        rw [show ((6 : Nat) : Int) = 6 from rfl]
                        go_wp2_with fail
                        go_roundw
                        case rel => exact ⟨k + 1, by omega, by go_num, HW⟩
                        case measure => simp [intOf]; omega
            · obtain rfl : k = 2 := by omega
              rw [show ((2 : Nat) : Int) = 2 from rfl]
              go_wp2_with fail
              go_ret
              exact ⟨rfl, HBe.out _ HW.out⟩
end Go.Proofs.Ytbpgafchagpmoaa
