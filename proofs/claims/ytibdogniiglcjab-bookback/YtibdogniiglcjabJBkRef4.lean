import Derived.Test.YtibdogniiglcjabBkRef3
import Derived.Test.YtibdogniiglcjabBkApp
import Derived.Test.YtibdogniiglcjabJBkRestH
import Derived.Shelf.SlIterI.Nil
import Derived.BigRegion
/-
  The document's Restore.
-/
namespace Go.Proofs.Ytibdogniiglcjab
open Go.RowKit Go.Sort

theorem appPins {w : World} (ty : TypeId) (base : Nat) (N : Nat) (ao : Option Addr) (c : Nat) (l : List (Int × Int)) (hsrc : CsAt N w ao (pns l)) (h0 : ao = none → c = 0) (hl : l.length ≤ 100000) (hb : base ≤ w.heap.size) :
    ∃ v' w', (Builtin.append_ #[24, 24] ty #[.slice none 0 0, .slice ao l.length c]).run Try.prog w = .ok v' w' ∧ (∃ a n c, v' = .slice a n c) ∧ w'.ownsRow base 72 2 v' l.length (pns l) ∧ w.grownBy w' none ∧ (v'.ownBlock = none ∨ v'.ownBlock = some w.heap.size) := by
  obtain ⟨v', w', h1, h2, h3, h4⟩ := akPin.app (w := w) ty base (.slice none 0 0) 0 [] (World.ownsRow_nil _ _ _ _) N ao l.length c (pns l) (pns_length l) hsrc h0 (pns_one l) (by omega) (by omega) hb
  rw [Nat.zero_add, List.nil_append] at h2
  refine ⟨v', w', h1, ?_, h2, h3, h4⟩
  obtain ⟨_, ⟨rfl, _⟩ | ⟨g, cp, cur, rfl, _⟩⟩ := h2
  · exact ⟨_, _, _, rfl⟩
  · exact ⟨_, _, _, rfl⟩
def RRPost (w : World) (cap : Int) (s : Sn) (e : Ending) (w' : World) : Prop :=
  (restE cap s ≠ 0 ∧ e = .returned (.tuple #[.pointer none, .int .i64 (restE cap s)]) ∧ Below w.heap.size w w') ∨
  (restE cap s = 0 ∧ ∃ R av pv, e = .returned (.tuple #[ptr R, .int .i64 0]) ∧ RB w' w.heap.size R cap s.la s.la av pv (snV s.chs) s.pins ∧ Below w.heap.size w w')
set_option maxRecDepth 100000 in
set_option maxHeartbeats 4000000 in
theorem rrestore_any (N : Nat) (w : World) (cap : Int) (s : Sn) (h : SnAt N w s) (hN : N ≤ w.heap.size) (ho : SnOK s) :
    Calls Try.prog 42 #[.int .i64 cap, snv s] w fun e w' => RRPost w cap s e w' := by
  obtain ⟨pn, hpn⟩ : ∃ pn, pn = s.pins.length := ⟨_, rfl⟩
  obtain ⟨cn, hcn⟩ : ∃ cn, cn = s.chs.length := ⟨_, rfl⟩
  obtain ⟨pa, hpa⟩ : ∃ pa, pa = s.pa := ⟨_, rfl⟩
  obtain ⟨ca, hca⟩ : ∃ ca, ca = s.ca := ⟨_, rfl⟩
  obtain ⟨pc, hpc⟩ : ∃ pc, pc = s.pc := ⟨_, rfl⟩
  obtain ⟨cc, hcc⟩ : ∃ cc, cc = s.cc := ⟨_, rfl⟩
  obtain ⟨la, hla⟩ : ∃ la, la = s.la := ⟨_, rfl⟩
  have hnp := ho.np
  have hnc := ho.nc
  have hsv : snv s = .agg #[.int .i64 la, .slice pa pn pc, .slice ca cn cc] := by rw [hla, hpa, hpn, hpc, hca, hcn, hcc]; rfl
  rw [← hpn] at hnp
  rw [← hcn] at hnc
  obtain ⟨W1, hW1⟩ : ∃ W1, W1 = w.alloc (.cells #[.int .i64 la, .slice pa pn pc, .slice ca cn cc] 27) := ⟨_, rfl⟩
  obtain ⟨Kb, hKb⟩ : ∃ Kb, Kb = w.heap.size := ⟨_, rfl⟩
  have HB : Hid (Below w.heap.size w W1 ∧ W1.heap[Kb]? = some (.cells #[.int .i64 la, .slice pa pn pc, .slice ca cn cc] 27 (0, 0))) := by
    rw [hW1, hKb]
    exact ⟨(Below.refl _ _).alloc (Nat.le_refl _) _, heap_alloc_new _ _ rfl⟩
  have HS : Hid (∀ W, Below W1.heap.size W1 W → SnAt N W s) := fun W hW => by
    have hb := HB.out.1
    exact (h.below (hb.mono hN)).below (hW.mono (by have := hb.size; omega))
  have HK : Hid (∀ W, Below W1.heap.size W1 W → W.cell? ⟨Kb, 0, none⟩ = some (.int .i64 la) ∧ W.cell? ⟨Kb, 1, none⟩ = some (.slice pa pn pc) ∧ W.cell? ⟨Kb, 2, none⟩ = some (.slice ca cn cc)) := fun W hW => by
    have h4 : W.heap[Kb]? = _ := (hW.block _ (blk_lt HB.out.2)).trans HB.out.2
    refine ⟨?_, ?_, ?_⟩ <;> simp [World.cell?, h4]
  have HCan : Hid (∀ W, Below W1.heap.size W1 W → Calls Try.prog 57 #[.agg #[.int .i64 la, .slice pa pn pc, .slice ca cn cc]] W fun e w' => FitPost W (CanR s) e w') := fun W hW => by
    have h1 := restorable_any N W s (HS.out W hW) (by have := hW.size; have := HB.out.1.size; omega) ho
    rw [hsv] at h1
    exact h1
  have HP0 : Hid ((pa = none → pc = 0) ∧ pn = s.pins.length ∧ pa = s.pa) := ⟨by rw [hpa, hpc]; exact h.p0, hpn, hpa⟩
  have HE := hidC (And.intro hpn (And.intro hcn (And.intro hca hla)))
  have HBw : Hid (∀ W, Below W1.heap.size W1 W → Below w.heap.size w W) := fun W hW => HB.out.1.trans (hW.mono HB.out.1.size)
  have HNv := hidC ho.nv
  rw [hsv]
  clear h hpn hcn hpa hca hpc hcc hla ho hsv
  go_enter Try.func42, Try.ntmps42
  go_wp2_with fail
  rw [← hW1, ← hKb]
  clear hW1 hKb
  refine (rnew_any W1 cap).mono ?_
  rintro e W2 (⟨hcap, rfl, hw2⟩ | ⟨hcap, rfl, hrb, hb2, _⟩)
  · subst hw2
    have HX : Hid (RRPost w cap s (.returned (.tuple #[.pointer none, .int .i64 91])) W2) := .inl ⟨by rw [restE_cap hcap]; decide, by rw [restE_cap hcap], HB.out.1⟩
    go_wp2
    go_ret2
    exact HX.out
  obtain ⟨R, hR⟩ : ∃ R, R = W1.heap.size := ⟨_, rfl⟩
  rw [← hR] at hrb ⊢
  have HR := hidC hR
  have HA2 := hidC hrb
  have HB2 := hidC hb2
  obtain ⟨k0, k1, k2⟩ := HK.out W2 hb2
  clear hrb hb2 hR
  go_wp2_with fail
  refine (HCan.out W2 HB2.out).mono ?_
  rintro e W3 ⟨r, rfl, hr, hb3⟩
  have HB3 : Hid (Below W1.heap.size W1 W3) := HB2.out.trans (hb3.mono HB2.out.size)
  have HA3 := hidC (HA2.out.kept hb3)
  clear k0 k1 k2 hb3
  cases r with
  | false =>
    have hnc : ¬ CanR s := fun h => by have := hr.2 h; cases this
    have HX : Hid (RRPost w cap s (.returned (.tuple #[.pointer none, .int .i64 105])) W3) := .inl ⟨by rw [restE_can hcap hnc]; decide, by rw [restE_can hcap hnc], HBw.out _ HB3.out⟩
    clear hr hnc
    go_wp2
    go_ret2
    exact HX.out
  | true =>
    have HCR := hidC (hr.1 rfl)
    clear hr HCan HA2 HB2
    obtain ⟨k0, k1, k2⟩ := HK.out W3 HB3.out
    obtain ⟨_, b1, b2, _⟩ := HA3.out.cells
    have f1 := HA3.out.frozen 1
    have f2 := HA3.out.frozen 2
    have hA4 := HA3.out.setLast la
    obtain ⟨_, _, b2', _⟩ := hA4.cells
    have f2' := hA4.frozen 2
    have hB4 : Below W1.heap.size W1 (W3.setCell ⟨R, 1, none⟩ (.int .i64 la)) := HB3.out.setCell (p := ⟨R, 1, none⟩) (by have := HR.out; simp; omega) _
    obtain ⟨k0', _, _⟩ := HK.out _ hB4
    have HA5 : Hid (RB ((W3.setCell ⟨R, 1, none⟩ (.int .i64 la)).setCell ⟨R, 2, none⟩ (.int .i64 la)) W1.heap.size R cap la la (.slice none 0 0) (.slice none 0 0) [] [] ∧ Below W1.heap.size W1 ((W3.setCell ⟨R, 1, none⟩ (.int .i64 la)).setCell ⟨R, 2, none⟩ (.int .i64 la))) := by
      refine ⟨?_, hB4.setCell (p := ⟨R, 2, none⟩) (by have := HR.out; simp; omega) _⟩
      have h1 := hA4.setLow la
      rwa [HR.out] at h1 ⊢
    clear hA4 hB4
    go_wp2_with fail
    obtain ⟨W5, hW5⟩ : ∃ W5, W5 = (W3.setCell ⟨R, 1, none⟩ (.int .i64 la)).setCell ⟨R, 2, none⟩ (.int .i64 la) := ⟨_, rfl⟩
    rw [← hW5] at HA5 ⊢
    clear hW5 k0 k1 k2 b1 b2 f1 f2 b2' f2' k0' HA3 HB3
    have hA5d : RB W5.drew W1.heap.size R cap la la (.slice none 0 0) (.slice none 0 0) [] [] := HA5.out.1.same (fun _ _ _ => rfl)
    have hB5d : Below W1.heap.size W1 W5.drew := ⟨HA5.out.2.os, HA5.out.2.tape, HA5.out.2.output, HA5.out.2.size, HA5.out.2.block⟩
    obtain ⟨_, _, _, _, g4⟩ := hA5d.cells
    obtain ⟨_, k1, _⟩ := HK.out W5.drew hB5d
    have g4' : W5.cell? ⟨R, 4, none⟩ = some (.slice none 0 0) := g4
    have k1' : W5.cell? ⟨Kb, 1, none⟩ = some (.slice pa pn pc) := k1
    have HApp : Hid (∀ ty, ∃ v' w', (Builtin.append_ #[24, 24] ty #[.slice none 0 0, .slice pa pn pc]).run Try.prog W5.drew = .ok v' w' ∧ ((∃ a n c, v' = .slice a n c) ∧ (w'.cell? ⟨R, 4, none⟩ = some (.slice none 0 0) ∧ w'.frozen? ⟨R, 4, none⟩ = false) ∧ Hid (RB (w'.setCell ⟨R, 4, none⟩ v') W1.heap.size R cap la la (.slice none 0 0) v' [] s.pins ∧ Below W1.heap.size W1 (w'.setCell ⟨R, 4, none⟩ v')))) := fun ty => by
      have hsrc := (HS.out W5.drew hB5d).ps
      rw [← HP0.out.2.2] at hsrc
      obtain ⟨v', w', q1, q2, q3, q4, q5⟩ := appPins (w := W5.drew) ty W1.heap.size N pa pc s.pins hsrc HP0.out.1 (by rw [← HP0.out.2.1]; exact hnp) hB5d.size
      rw [← HP0.out.2.1] at q1
      obtain ⟨z1, z2⟩ := hA5d.putPins q3 q4 q5
      refine ⟨v', w', q1, q2, z1, z2, ?_⟩
      exact (hB5d.grown q4 hB5d.size (fun k e => by cases e)).setCell (p := ⟨R, 4, none⟩) (by have := HR.out; simp; omega) _
    clear hA5d hB5d HA5
    go_region_law (refine step_appG rfl _ _ 24 rfl (.slice none 0 0) (.slice pa pn pc) rfl rfl HApp.out ?_; rintro v' w6 ⟨⟨a6, n6, c6, rfl⟩, ⟨hc6, hf6⟩, HR6⟩)
    all_goals (
      obtain ⟨W7, hW7⟩ : ∃ W7, W7 = w6.setCell ⟨R, 4, none⟩ (.slice a6 n6 c6) := ⟨_, rfl⟩
      rw [← hW7] at HR6 ⊢
      obtain ⟨pv, hpv⟩ : ∃ pv, pv = Value.slice a6 n6 c6 := ⟨_, rfl⟩
      rw [← hpv] at HR6
      clear hW7 hc6 hf6 g4 g4' k1 k1' HApp hpv
      have HSz : Hid ((snV s.chs).length = snSize s.chs ∧ snSize s.chs ≤ 10000000000) := ⟨snV_length _, by
        have h1 := snSize_le HNv.out
        have h2 := HE.out.2.1
        have h3 : s.chs.length * 100000 ≤ 100000 * 100000 := Nat.mul_le_mul (by omega) (Nat.le_refl _)
        show _ ≤ _
        omega⟩
      go_wp2_with fail
      go_loopw [9, 10, 11] (fun y _ _ wr => ∃ i : Nat, i ≤ cn ∧ y = .int .i64 (i : Int) ∧ Hid (∃ av, RB wr W1.heap.size R cap la la av pv (snV (s.chs.take i)) s.pins ∧ Below W1.heap.size W1 wr)) (fun y _ _ _ => cn - (intOf y).toNat)
      case atStart => exact ⟨0, Nat.zero_le _, rfl, _, HR6.out⟩
      case round =>
        clear HR6
        obtain ⟨i, hi, rfl, HI⟩ := hrel
        obtain ⟨av0, hA0, hb0⟩ := HI.out
        obtain ⟨k0, k1, k2⟩ := HK.out wr hb0
        by_cases hlt : i < cn
        · have hil : i < s.chs.length := by have := HE.out.2.1; omega
          have HCl : Hid (∀ W, Below W1.heap.size W1 W → ∃ b off, ca = some ⟨b, off, none⟩ ∧ W.cell? ⟨b, off + i * 3, none⟩ = some (.int .i64 s.chs[i].k.1) ∧ W.cell? ⟨b, off + i * 3 + 1, none⟩ = some (.int .i64 s.chs[i].k.2) ∧ W.cell? ⟨b, off + i * 3 + 2, none⟩ = some (.slice s.chs[i].a s.chs[i].l.length s.chs[i].c)) := fun W hW => by
            obtain ⟨b', off', he, q⟩ := (HS.out W hW).chain (i := i) hil
            rw [← HE.out.2.2.1] at he
            exact ⟨b', off', he, q⟩
          obtain ⟨b, off, hca, _⟩ := HCl.out wr hb0
          subst hca
          have HCm : Hid (∀ W, Below W1.heap.size W1 W → W.cell? ⟨b, off + i * 3, none⟩ = some (.int .i64 s.chs[i].k.1) ∧ W.cell? ⟨b, off + i * 3 + 1, none⟩ = some (.int .i64 s.chs[i].k.2) ∧ W.cell? ⟨b, off + i * 3 + 2, none⟩ = some (.slice s.chs[i].a s.chs[i].l.length s.chs[i].c)) := fun W hW => by
            obtain ⟨b', off', he, q⟩ := HCl.out W hW
            cases he
            exact q
          have hsn := HNv.out _ (List.getElem_mem hil)
          have HT : Hid (snV (s.chs.take (i + 1)) = snV (s.chs.take i) ++ (chV s.chs[i]).take s.chs[i].l.length) := by
            show _ = _
            rw [List.take_succ_eq_append_getElem hil, snV_append]
            have e1 : snV [s.chs[i]] = chV s.chs[i] := by simp [snV]
            have e2 : s.chs[i].l.length = (chV s.chs[i]).length := by simp [chV]
            rw [e1, e2, List.take_length]
          have HVs : Hid (∀ W, Below W1.heap.size W1 W → CsAt N W s.chs[i].a (scs s.chs[i].l)) := fun W hW => (HS.out W hW).vs _ (List.getElem_mem hil)
          have HSt : Hid (∀ (j : Nat) (hj : j < s.chs[i].l.length), (snV (s.chs.take i) ++ (chV s.chs[i]).take j).length + 1 ≤ 10000000000 ∧ (chV s.chs[i]).take (j + 1) = (chV s.chs[i]).take j ++ [(s.chs[i].k, (s.chs[i].l[j].b, s.chs[i].l[j].i))]) := fun j hj => by
            obtain ⟨r1, r2, r3, r4, r5⟩ := restStep HCR.out hil hj
            have := HSz.out.2
            exact ⟨by omega, r5⟩
          have HU0 : Hid (∃ av, RB wr W1.heap.size R cap la la av pv (snV (s.chs.take i) ++ (chV s.chs[i]).take 0) s.pins ∧ Below W1.heap.size W1 wr) := by
            refine ⟨av0, ?_, hb0⟩
            rw [List.take_zero, List.append_nil]
            exact hA0
          clear hA0 HI HCl
          generalize s.chs[i] = cj at *
          obtain ⟨⟨x1, x2⟩, sa, sc, sl⟩ := cj
          simp only at HU0 HSt HT HVs hsn HCm
          obtain ⟨sn, hsn'⟩ : ∃ sn, sn = sl.length := ⟨_, rfl⟩
          rw [← hsn'] at HCm HT hsn
          have HSn := hidC hsn'
          clear hsn'
          obtain ⟨c0, c1, c2⟩ := HCm.out wr hb0
          generalize hP0 : snV (s.chs.take i) = P0 at *
          generalize hP1 : snV (s.chs.take (i + 1)) = P1 at *
          go_wp2_with fail
          clear k0 k1 k2 c0 c1 c2 hb0
          go_loopw [10, 11] (fun y _ wr => ∃ j : Nat, j ≤ sn ∧ y = .int .i64 (j : Int) ∧ Hid (∃ av, RB wr W1.heap.size R cap la la av pv (P0 ++ (chV ⟨(x1, x2), sa, sc, sl⟩).take j) s.pins ∧ Below W1.heap.size W1 wr)) (fun y _ _ => sn - (intOf y).toNat)
          case atStart => exact ⟨0, Nat.zero_le _, rfl, HU0.out⟩
          case round =>
            clear HU0
            obtain ⟨j, hj, rfl, HJ⟩ := hrel
            obtain ⟨av1, hA1, hb1⟩ := HJ.out
            obtain ⟨k0, k1, k2⟩ := HK.out wr hb1
            obtain ⟨c0, c1, c2⟩ := HCm.out wr hb1
            by_cases hjlt : j < sn
            · have hjl : j < sl.length := by have := HSn.out; omega
              obtain ⟨b', off', hsa, d0, d1, d2, d3⟩ := (HVs.out wr hb1).stamp hjl
              subst hsa
              obtain ⟨r4, r5⟩ := HSt.out j hjl
              generalize sl[j].b = y1 at *
              generalize sl[j].i = y2 at *
              generalize sl[j].s = y3 at *
              generalize sl[j].v = y4 at *
              obtain ⟨U, hU⟩ : ∃ U, U = wr.alloc (.cells #[.int .i64 y1, .int .i64 y2, .bool y3, .int .i64 y4] 112) := ⟨_, rfl⟩
              obtain ⟨Vb, hVb⟩ : ∃ Vb, Vb = wr.heap.size := ⟨_, rfl⟩
              have hbU : Below wr.heap.size wr U := by rw [hU]; exact (Below.refl _ _).alloc (Nat.le_refl _) _
              have hUb : U.heap[Vb]? = some (.cells #[.int .i64 y1, .int .i64 y2, .bool y3, .int .i64 y4] 112 (0, 0)) := by rw [hU, hVb]; exact heap_alloc_new _ _ rfl
              have hAU := hA1.kept hbU
              have hb1U : Below W1.heap.size W1 U := hb1.trans (hbU.mono hb1.size)
              have z3 := hAU.cells.2.2.2.1
              have z4 := (HK.out U hb1U).2.2
              obtain ⟨z5, z6, _⟩ := HCm.out U hb1U
              have z7 : U.cell? ⟨Vb, 0, none⟩ = some (.int .i64 y1) := by simp [World.cell?, hUb]
              have z8 : U.cell? ⟨Vb, 1, none⟩ = some (.int .i64 y2) := by simp [World.cell?, hUb]
              have y3a : ∀ o, (U.alloc o).cell? ⟨R, 3, none⟩ = some av1 := fun o => Lib.cell?_alloc_some _ z3
              have y4a : ∀ o, (U.alloc o).cell? ⟨Kb, 2, none⟩ = some (.slice (some ⟨b, off, none⟩) cn cc) := fun o => Lib.cell?_alloc_some _ z4
              have y5a : ∀ o, (U.alloc o).cell? ⟨b, off + i * 3, none⟩ = some (.int .i64 x1) := fun o => Lib.cell?_alloc_some _ z5
              have y6a : ∀ o, (U.alloc o).cell? ⟨b, off + i * 3 + 1, none⟩ = some (.int .i64 x2) := fun o => Lib.cell?_alloc_some _ z6
              have y7a : ∀ o, (U.alloc o).cell? ⟨Vb, 0, none⟩ = some (.int .i64 y1) := fun o => Lib.cell?_alloc_some _ z7
              have y8a : ∀ o, (U.alloc o).cell? ⟨Vb, 1, none⟩ = some (.int .i64 y2) := fun o => Lib.cell?_alloc_some _ z8
              have HApp : Hid (∀ ty, ∃ v' w', (Builtin.append_ #[123, 123] ty #[av1, .slice (some ⟨U.heap.size, 0, none⟩) 1 1]).run Try.prog (U.drew.alloc (.cells #[.int .i64 x1, .int .i64 x2, .int .i64 y1, .int .i64 y2] 127)) = .ok v' w' ∧ ((∃ a n c, v' = .slice a n c) ∧ (w'.cell? ⟨R, 3, none⟩ = some av1 ∧ w'.frozen? ⟨R, 3, none⟩ = false) ∧ Hid (w'.cell? ⟨Kb, 2, none⟩ = some (.slice (some ⟨b, off, none⟩) cn cc) ∧ w'.cell? ⟨b, off + i * 3, none⟩ = some (.int .i64 x1) ∧ w'.cell? ⟨b, off + i * 3 + 1, none⟩ = some (.int .i64 x2) ∧ w'.cell? ⟨Vb, 0, none⟩ = some (.int .i64 y1) ∧ w'.cell? ⟨Vb, 1, none⟩ = some (.int .i64 y2)) ∧ Hid ((w'.setCell ⟨R, 3, none⟩ v').cell? ⟨Kb, 2, none⟩ = some (.slice (some ⟨b, off, none⟩) cn cc) ∧ (w'.setCell ⟨R, 3, none⟩ v').cell? ⟨b, off + i * 3, none⟩ = some (.int .i64 x1) ∧ (w'.setCell ⟨R, 3, none⟩ v').cell? ⟨b, off + i * 3 + 1, none⟩ = some (.int .i64 x2) ∧ (w'.setCell ⟨R, 3, none⟩ v').cell? ⟨Vb, 0, none⟩ = some (.int .i64 y1) ∧ (w'.setCell ⟨R, 3, none⟩ v').cell? ⟨Vb, 1, none⟩ = some (.int .i64 y2)) ∧ Hid (RB (w'.setCell ⟨R, 3, none⟩ v') W1.heap.size R cap la la v' pv (P0 ++ (chV ⟨(x1, x2), some ⟨b', off', none⟩, sc, sl⟩).take (j + 1)) s.pins ∧ Below W1.heap.size W1 (w'.setCell ⟨R, 3, none⟩ v')))) := fun ty => by
                have hbD : Below W1.heap.size W1 U.drew := ⟨hb1U.os, hb1U.tape, hb1U.output, hb1U.size, hb1U.block⟩
                have hAD : RB (U.drew.alloc (.cells #[.int .i64 x1, .int .i64 x2, .int .i64 y1, .int .i64 y2] 127)) W1.heap.size R cap la la av1 pv (P0 ++ (chV ⟨(x1, x2), some ⟨b', off', none⟩, sc, sl⟩).take j) s.pins := (hAU.same (w' := U.drew) (fun _ _ _ => rfl)).kept ((Below.refl _ _).alloc (Nat.le_refl _) _)
                have hbA := hbD.alloc hbD.size (.cells #[.int .i64 x1, .int .i64 x2, .int .i64 y1, .int .i64 y2] 127)
                obtain ⟨v', w', q1, q2, q3, q4⟩ := akVer.app (w := U.drew.alloc (.cells #[.int .i64 x1, .int .i64 x2, .int .i64 y1, .int .i64 y2] 127)) ty W1.heap.size av1 _ _ hAD.ra (U.drew.heap.size + 1) (some ⟨U.drew.heap.size, 0, none⟩) 1 1 [.int .i64 x1, .int .i64 x2, .int .i64 y1, .int .i64 y2] rfl (CsAt.new U.drew _ _) (by simp) (v4s_one [((x1, x2), (y1, y2))]) (by omega) (by omega) (by have := hbA.size; omega)
                have e5 : P0 ++ (chV ⟨(x1, x2), some ⟨b', off', none⟩, sc, sl⟩).take (j + 1) = (P0 ++ (chV ⟨(x1, x2), some ⟨b', off', none⟩, sc, sl⟩).take j) ++ [((x1, x2), (y1, y2))] := by rw [r5, ← List.append_assoc]
                have q2' : w'.ownsRow W1.heap.size 127 4 v' (P0 ++ (chV ⟨(x1, x2), some ⟨b', off', none⟩, sc, sl⟩).take (j + 1)).length (v4s (P0 ++ (chV ⟨(x1, x2), some ⟨b', off', none⟩, sc, sl⟩).take (j + 1))) := by
                  rw [e5, v4s_append, List.length_append]
                  exact q2
                obtain ⟨z1, z2⟩ := hAD.putAll q2' q3 q4
                have hbg := hbA.grown q3 hbA.size (fun k e => (World.ownsRow.lt hAD.ra k e).1)
                have hbs := hbg.setCell (p := ⟨R, 3, none⟩) (by have := HR.out; simp; omega) v'
                have hVd : (U.drew.alloc (.cells #[.int .i64 x1, .int .i64 x2, .int .i64 y1, .int .i64 y2] 127)).heap[Vb]? = some (.cells #[.int .i64 y1, .int .i64 y2, .bool y3, .int .i64 y4] 112 (0, 0)) := (heap_alloc_old _ _ (blk_lt (w := U.drew) hUb)).trans hUb
                have hVg : w'.heap[Vb]? = some (.cells #[.int .i64 y1, .int .i64 y2, .bool y3, .int .i64 y4] 112 (0, 0)) := (q3.block Vb (blk_lt hVd) (fun e => by
                  obtain ⟨cur, hc⟩ := rowBlock hAD.ra e.symm
                  rw [hVd] at hc
                  cases hc)).trans hVd
                have hVR : Vb ≠ R := fun e => by
                  have h1 := hAU.bk
                  rw [← e, hUb] at h1
                  cases h1
                have hVs : (w'.setCell ⟨R, 3, none⟩ v').heap[Vb]? = some (.cells #[.int .i64 y1, .int .i64 y2, .bool y3, .int .i64 y4] 112 (0, 0)) := (heap_setCell_other _ _ _ _ (fun e => hVR e)).trans hVg
                refine ⟨v', w', q1, ?_, z1, ⟨(HK.out _ hbg).2.2, (HCm.out _ hbg).1, (HCm.out _ hbg).2.1, by simp [World.cell?, hVg], by simp [World.cell?, hVg]⟩, ⟨(HK.out _ hbs).2.2, (HCm.out _ hbs).1, (HCm.out _ hbs).2.1, by simp only [World.cell?, hVs]; rfl, by simp only [World.cell?, hVs]; rfl⟩, z2, hbs⟩
                · obtain ⟨_, ⟨rfl, _⟩ | ⟨g, cp, cur, rfl, _⟩⟩ := q2'
                  · exact ⟨_, _, _, rfl⟩
                  · exact ⟨_, _, _, rfl⟩
              have z3d : U.drew.cell? ⟨R, 3, none⟩ = some av1 := z3
              have y3d : ∀ o, (U.drew.alloc o).cell? ⟨R, 3, none⟩ = some av1 := fun o => y3a o
              have y3e : ∀ o, (U.alloc o).drew.cell? ⟨R, 3, none⟩ = some av1 := fun o => y3a o
              have HS1 : Hid (U.drew.cell? ⟨Kb, 2, none⟩ = some (.slice (some ⟨b, off, none⟩) cn cc) ∧ U.drew.cell? ⟨b, off + i * 3, none⟩ = some (.int .i64 x1) ∧ U.drew.cell? ⟨b, off + i * 3 + 1, none⟩ = some (.int .i64 x2) ∧ U.drew.cell? ⟨Vb, 0, none⟩ = some (.int .i64 y1) ∧ U.drew.cell? ⟨Vb, 1, none⟩ = some (.int .i64 y2)) := ⟨z4, z5, z6, z7, z8⟩
              have HS2 : Hid (∀ o, (U.drew.alloc o).cell? ⟨Kb, 2, none⟩ = some (.slice (some ⟨b, off, none⟩) cn cc) ∧ (U.drew.alloc o).cell? ⟨b, off + i * 3, none⟩ = some (.int .i64 x1) ∧ (U.drew.alloc o).cell? ⟨b, off + i * 3 + 1, none⟩ = some (.int .i64 x2) ∧ (U.drew.alloc o).cell? ⟨Vb, 0, none⟩ = some (.int .i64 y1) ∧ (U.drew.alloc o).cell? ⟨Vb, 1, none⟩ = some (.int .i64 y2)) := fun o => ⟨y4a o, y5a o, y6a o, y7a o, y8a o⟩
              clear hA1 hb1 hbU hUb hAU hb1U r4 r5 HJ HSt HVs HT HCm
              go_wp2_with fail
              rw [← hU, ← hVb]
              clear hU hVb k0 k1 k2 c0 c1 c2 d0 d1 d2 d3
              obtain ⟨v6, w6, hq6, ⟨a6, n6, c6, hv6⟩, ⟨hc6, hf6⟩, _, _, HR6⟩ := HApp.out 123
              subst hv6
              have hq7 : (Builtin.append_ #[123, 123] 123 #[av1, .slice (some ⟨U.heap.size, 0, none⟩) 1 1]).run Try.prog (U.alloc (.cells #[.int .i64 x1, .int .i64 x2, .int .i64 y1, .int .i64 y2] 127)).drew = .ok (.slice a6 n6 c6) w6 := hq6
              clear hq6
              simp [go_sem] at hq7
              clear HApp HS1 HS2
              go_region
              clear z3 z3d y3d y3e z4 z5 z6 z7 z8 y3a y4a y5a y6a y7a y8a hc6 hf6 hq7
              go_wp2
              exact ⟨⟨j + 1, by omega, by go_num, _, HR6.out⟩, by simp [intOf]; omega⟩
            · have hje : j = sn := by omega
              subst hje
              have HF : Hid (∃ av, RB wr W1.heap.size R cap la la av pv P1 s.pins ∧ Below W1.heap.size W1 wr) := by
                obtain ⟨av, hA, hb⟩ := HJ.out
                rw [← HT.out] at hA
                exact ⟨av, hA, hb⟩
              clear HJ HSt HVs HT hA1 hb1
              go_wp2
              refine ⟨⟨i + 1, by omega, by go_num, ?_⟩, by simp [intOf]; omega⟩
              rw [hP1]
              exact HF.out
        · have hie : i = cn := by omega
          subst hie
          rw [HE.out.2.1, List.take_length] at hA0
          obtain ⟨a9, n9, c9, hav, hn9⟩ : ∃ a n c, av0 = .slice a n c ∧ n = snSize s.chs := by
            have h3 := HSz.out.1
            obtain ⟨_, ⟨h1, h2⟩ | ⟨g, cp, cur, h1, _⟩⟩ := hA0.ra
            · exact ⟨_, _, _, h1, by omega⟩
            · exact ⟨_, _, _, h1, h3⟩
          subst hav
          have z3 := hA0.cells.2.2.2.1
          have HN9 := hidC hn9
          have HFin : Hid ((cap < (n9 : Int) → RRPost w cap s (.returned (.tuple #[.pointer none, .int .i64 100])) wr) ∧ (¬ cap < (n9 : Int) → RRPost w cap s (.returned (.tuple #[ptr R, .int .i64 0])) wr)) := by
            refine ⟨fun h => ?_, fun h => ?_⟩
            · have h1 := restE_room hcap HCR.out (by rw [← HN9.out]; exact h)
              exact .inl ⟨by rw [h1]; decide, by rw [h1], HBw.out _ hb0⟩
            · have h1 := restE_ok hcap HCR.out (by rw [← HN9.out]; exact h)
              refine .inr ⟨h1, R, .slice a9 n9 c9, pv, rfl, ?_, HBw.out _ hb0⟩
              have h2 : w.heap.size ≤ W1.heap.size := HB.out.1.size
              have h3 := HE.out.2.2.2
              rw [h3] at hA0
              exact ⟨hA0.bk, ownsRow_base_a hA0.ra h2, ownsRow_base_a hA0.rp h2, Nat.le_trans h2 hA0.le⟩
          clear hA0 hb0 HI hn9
          by_cases h5 : cap < (n9 : Int)
          · have h5b : decide (cap < (n9 : Int)) = true := decide_eq_true h5
            have HX := hidC (HFin.out.1 h5)
            clear HFin
            go_wp2
            go_ret2
            exact HX.out
          · have h5b : decide (cap < (n9 : Int)) = false := decide_eq_false h5
            have HX := hidC (HFin.out.2 h5)
            clear HFin
            go_wp2
            go_ret2
            exact HX.out
    )
end Go.Proofs.Ytibdogniiglcjab
