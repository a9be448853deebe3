/-
  ExecMakes: THE LAW.
-/
import Derived.Test.YtkpggbjibngplaaEMake
namespace Go.Proofs.Ytkpggbjibngplaa
open Go.RowKit Go.Sort

theorem infoBg : (Try.prog.info? 173).map (fun i => (i.zero, i.size, i.bytes)) = some (some (.slice none 0 0), 1, 24) := by kernel_rfl
theorem make_bg (c : Nat) (hc : c ≤ 64) (u : World) : (Instr.makeSlice 96 (.int .i64 (c : Int)) (.int .i64 (c : Int))).run Try.prog u = .ok (.slice (some ⟨u.heap.size, 0, none⟩) c c) (u.alloc (.cells (madeCells #[.slice none 0 0] c) 173)) := by
  obtain ⟨i0, hi, hz0, hz1, hz2⟩ := info_parts infoBg
  have h := run_make (P := Try.prog) u 96 173 i0 (.slice none 0 0) Try.underlying96 hi hz0 .i64 .i64 (c : Int) (c : Int) (by omega) (Int.le_refl _) (by rw [hz2]; omega) (by omega)
  rw [hz1, Int.toNat_natCast, Nat.mul_one] at h
  exact h
set_option maxRecDepth 100000 in
set_option maxHeartbeats 1000000 in
theorem rexNew (w : World) (B S : Nat) (ao : Option Addr) (n cap : Nat) (Ps : List Pr) (h : LibAt w ao Ps) (hn : n = Ps.length) (hm : n ≤ 100000) (k : Int) :
    Calls Try.prog 14 #[pt B, pt S, .slice ao n cap, .int .i64 k] w fun e w' => NP w (exE Ps k) e w' := by
  have HCk := refCheck_any w ao n cap Ps h hn (by omega)
  clear h hn hm
  have hex : exE Ps k = if (checkN Ps).2 ≠ 0 then (checkN Ps).2 else if k < 1 ∨ 64 < k then 120 else 0 := rfl
  generalize exE Ps k = er at *
  generalize (checkN Ps).1 = k1 at *
  generalize (checkN Ps).2 = k2 at *
  have HEx := hidX hex
  clear hex
  go_enter Try.func14, Try.ntmps14
  go_wp2_with fail
  refine HCk.mono ?_
  clear HCk
  rintro e w1 ⟨rfl, hb1⟩
  have HB1 : Hid (Below w.heap.size w w1) := hb1
  clear hb1
  have hex := HEx.out
  clear HEx
  by_cases h0 : k2 = 0
  · subst h0
    rw [if_neg (by simp)] at hex
    by_cases h1 : k < 1
    · have HX : Hid (NP w er (.returned (.tuple #[.pointer none, .int .i64 120])) w1) := by rw [hex, if_pos (.inl h1)]; exact NP.bad (by decide) HB1.out
      clear hex
      go_wp2
      go_ret2
      exact HX.out
    by_cases h2 : 64 < k
    · have HX : Hid (NP w er (.returned (.tuple #[.pointer none, .int .i64 120])) w1) := by rw [hex, if_pos (.inr h2)]; exact NP.bad (by decide) HB1.out
      clear hex
      go_wp2
      go_ret2
      exact HX.out
    have HE : Hid (er = 0) := by show _ = _; rw [hex, if_neg (by omega)]
    obtain ⟨m, rfl⟩ : ∃ m : Nat, k = m := ⟨k.toNat, by omega⟩
    have hml := fun u => make_bg m (by omega) u
    have hz := HB1.out.size
    have HZ := hidX hz
    clear hex hz
    go_wp2
    go_ret2
    exact NP.good HE.out ((HB1.out.alloc HZ.out _).alloc (by have := HZ.out; simp; omega) _)
  · have hk2 : (k2 != 0) = true := by simpa using h0
    rw [if_pos h0] at hex
    have HX : Hid (NP w er (.returned (.tuple #[.pointer none, .int .i64 k2])) w1) := by rw [hex]; exact NP.bad h0 HB1.out
    clear hex
    go_wp2
    go_ret2
    exact HX.out
theorem numX (w : World) (x : Int) : Calls Try.prog 8 #[.int .i64 x] w fun e w' => e = .returned (.int .i64 x) ∧ w' = w := by
  go_enter Try.func8, Try.ntmps8
  go_wp2
  go_ret
  exact ⟨rfl, rfl⟩
theorem CLs.kept {n0 : Nat} {w W W' : World} {v : Value} {Ps Qs : List Pr} {k : Nat} (h : CLs n0 w W v Ps Qs k) (hb : Below W.heap.size W W') : CLs n0 w W' v Ps Qs k :=
  ⟨h.bel.trans (hb.mono (Nat.le_trans h.le h.bel.size)), h.le, h.len, h.own.kept hb, fun x hx => (h.ok x hx).same fun g hg => hb.block g ((h.ok x hx).lt g hg).2, h.ap, h.lk⟩
theorem pairCells {W : World} {B : Nat} (h : W.heap[B]? = some (.cells #[.pointer none, .pointer none, .pointer none, .pointer none, .pointer none, .pointer none, .slice none 0 0, .slice none 0 0] 43 (0, 0))) :
    W.cell? ⟨B, 0, none⟩ = some (.pointer none) ∧ W.cell? ⟨B, 1, none⟩ = some (.pointer none) ∧ W.cell? ⟨B, 2, none⟩ = some (.pointer none) ∧ W.cell? ⟨B, 3, none⟩ = some (.pointer none) ∧ W.cell? ⟨B, 4, none⟩ = some (.pointer none) ∧ W.cell? ⟨B, 5, none⟩ = some (.pointer none) ∧
    W.frozen? ⟨B, 0, none⟩ = false ∧ W.frozen? ⟨B, 1, none⟩ = false ∧ W.frozen? ⟨B, 2, none⟩ = false ∧ W.frozen? ⟨B, 3, none⟩ = false ∧ W.frozen? ⟨B, 4, none⟩ = false ∧ W.frozen? ⟨B, 5, none⟩ = false := by
  refine ⟨?_, ?_, ?_, ?_, ?_, ?_, frozen_of_row W B 0 _ _ h, frozen_of_row W B 1 _ _ h, frozen_of_row W B 2 _ _ h, frozen_of_row W B 3 _ _ h, frozen_of_row W B 4 _ _ h, frozen_of_row W B 5 _ _ h⟩ <;> simp [World.cell?, h]
def MdP (w : World) (e : Ending) (w' : World) : Prop := (∃ P, e = .returned (.tuple #[pt P, .bool true])) ∧ Below w.heap.size w w'
set_option maxRecDepth 100000 in
set_option maxHeartbeats 2000000 in
theorem made_any (w : World) (p c k a h : Int) (ao : Option Addr) (n cap : Nat) (Ps : List Pr) (hl : LibAt w ao Ps) (hn : n = Ps.length) (hm : n ≤ 100000) (hx : ∀ x ∈ Ps, x.n ≤ 100000) :
    Calls Try.prog 5 #[.agg #[.int .i64 p, .int .i64 c, .int .i64 k, .int .i64 a, .int .i64 h], .slice ao n cap] w fun e w' => MdP w e w' := by
  obtain ⟨Kb, hKb⟩ : ∃ Kb, Kb = w.heap.size := ⟨_, rfl⟩
  obtain ⟨W1, hW1⟩ : ∃ W1, W1 = (w.alloc (.cells #[.int .i64 p, .int .i64 c, .int .i64 k, .int .i64 a, .int .i64 h] 23)).alloc (.cells #[.pointer none, .pointer none, .pointer none, .pointer none, .pointer none, .pointer none, .slice none 0 0, .slice none 0 0] 43) := ⟨_, rfl⟩
  have hb1 : Below w.heap.size w W1 := by rw [hW1]; exact ((Below.refl _ _).alloc (Nat.le_refl _) _).alloc (by simp) _
  have hs1 : W1.heap[Kb]? = some (.cells #[.int .i64 p, .int .i64 c, .int .i64 k, .int .i64 a, .int .i64 h] 23 (0, 0)) := by rw [hW1, hKb]; exact (heap_alloc_old _ _ (by simp)).trans (heap_alloc_new _ _ rfl)
  have hp1 : W1.heap[Kb + 1]? = some (.cells #[.pointer none, .pointer none, .pointer none, .pointer none, .pointer none, .pointer none, .slice none 0 0, .slice none 0 0] 43 (0, 0)) := by rw [hW1, hKb]; exact heap_alloc_new _ _ (by simp)
  have HK : Hid (∀ W, Below W1.heap.size W1 W → W.cell? ⟨Kb, 0, none⟩ = some (.int .i64 p) ∧ W.cell? ⟨Kb, 1, none⟩ = some (.int .i64 c) ∧ W.cell? ⟨Kb, 2, none⟩ = some (.int .i64 k) ∧ W.cell? ⟨Kb, 3, none⟩ = some (.int .i64 a) ∧ W.cell? ⟨Kb, 4, none⟩ = some (.int .i64 h)) := fun W hW => by
    have h4 : W.heap[Kb]? = _ := (hW.block _ (Array.getElem?_eq_some_iff.1 hs1).1).trans hs1
    refine ⟨?_, ?_, ?_, ?_, ?_⟩ <;> simp [World.cell?, h4]
  have HPr : Hid (∀ W, Below W1.heap.size W1 W → W.heap[Kb + 1]? = some (.cells #[.pointer none, .pointer none, .pointer none, .pointer none, .pointer none, .pointer none, .slice none 0 0, .slice none 0 0] 43 (0, 0))) := fun W hW => (hW.block _ (Array.getElem?_eq_some_iff.1 hp1).1).trans hp1
  have HBw : Hid (∀ W, Below W1.heap.size W1 W → Below w.heap.size w W) := fun W hW => hb1.trans (hW.mono hb1.size)
  have HL : Hid (∀ W, Below W1.heap.size W1 W → LibAt W ao Ps) := fun W hW => hl.kept (HBw.out W hW)
  have HKl : Hid (Kb = w.heap.size) := hKb
  have HN := hidX (And.intro hn (And.intro hm hx))
  have HNm := fun (W : World) (x : Int) => numX W x
  clear hl hn hx hb1 hs1 hp1
  go_enter Try.func5, Try.ntmps5
  go_upto_region 2 with fail
  rw [← hW1, ← hKb]
  clear hW1 hKb
  obtain ⟨c0, c1, c2, c3, c4⟩ := HK.out W1 (Below.refl _ _)
  go_wp2_with fail
  clear c0 c1 c2 c3 c4
  refine (stNew W1 p c).mono ?_
  rintro e w2 ⟨hr2, hb2⟩
  have HB2 := hidX hb2
  clear hb2
  obtain ⟨c0, c1, c2, c3, c4⟩ := HK.out w2 HB2.out
  rcases hr2 with ⟨hne, rfl⟩ | ⟨h0, S, rfl⟩
  · go_wp2_with fail
    clear c0 c1 c2 c3 c4
    refine (rstNew w2 p c).mono ?_
    rintro e w3 ⟨⟨_, rfl⟩ | ⟨h00, _⟩, hb3⟩
    · have HB3 : Hid (Below w.heap.size w w3) := HBw.out _ (HB2.out.trans (hb3.mono HB2.out.size))
      clear hb3
      generalize stE p c = er at *
      have heq : (er == er) = true := by simp
      go_wp2_with (first | (go_at_call 8; refine (HNm _ _).mono ?_; rintro e w4 ⟨rfl, rfl⟩))
      go_ret2
      exact ⟨⟨_, rfl⟩, HB3.out⟩
    · exact absurd h00 hne
  go_wp2_with fail
  clear c0 c1 c2 c3 c4
  refine (rstNew w2 p c).mono ?_
  rintro e w3 ⟨⟨hne, _⟩ | ⟨_, R, rfl⟩, hb3⟩
  · exact absurd h0 hne
  have HB3 : Hid (Below W1.heap.size W1 w3) := HB2.out.trans (hb3.mono HB2.out.size)
  clear hb3 HB2 h0
  obtain ⟨c0, c1, c2, c3, c4⟩ := HK.out w3 HB3.out
  go_wp2_with fail
  clear c0 c1 c2 c3 c4
  refine (ccNew w3 S k a).mono ?_
  rintro e w4 ⟨hr4, hb4⟩
  have HB4 : Hid (Below W1.heap.size W1 w4) := HB3.out.trans (hb4.mono HB3.out.size)
  clear hb4 HB3
  obtain ⟨c0, c1, c2, c3, c4⟩ := HK.out w4 HB4.out
  rcases hr4 with ⟨hne, rfl⟩ | ⟨h0, B, rfl⟩
  · go_wp2_with fail
    clear c0 c1 c2 c3 c4
    refine (rccNew w4 R k a).mono ?_
    rintro e w5 ⟨⟨_, rfl⟩ | ⟨h00, _⟩, hb5⟩
    · have HB5 : Hid (Below w.heap.size w w5) := HBw.out _ (HB4.out.trans (hb5.mono HB4.out.size))
      clear hb5
      generalize ccE k a = er at *
      have heq : (er == er) = true := by simp
      go_wp2_with (first | (go_at_call 8; refine (HNm _ _).mono ?_; rintro e w6 ⟨rfl, rfl⟩))
      go_ret2
      exact ⟨⟨_, rfl⟩, HB5.out⟩
    · exact absurd h00 hne
  go_wp2_with fail
  clear c0 c1 c2 c3 c4
  refine (rccNew w4 R k a).mono ?_
  rintro e w5 ⟨⟨hne, _⟩ | ⟨_, D, rfl⟩, hb5⟩
  · exact absurd h0 hne
  have HB5 : Hid (Below W1.heap.size W1 w5) := HB4.out.trans (hb5.mono HB4.out.size)
  clear hb5 HB4 h0
  go_wp2_with fail
  refine (copyLib_any w5 ao n cap Ps (HL.out w5 HB5.out) HN.out.1 HN.out.2.1).mono ?_
  rintro e w6 ⟨v, Qs, rfl, hC⟩
  obtain ⟨a6, q6, hv, _, hnil6, _⟩ := hC.own.slice
  rw [hC.len] at hv
  subst hv
  have HC := hidX hC
  have HB6 : Hid (Below W1.heap.size W1 w6) := HB5.out.trans (hC.bel.mono HB5.out.size)
  have HQ : Hid (∀ x ∈ Qs, x.n ≤ 100000) := fun x hx => by
    obtain ⟨i, hi, rfl⟩ := List.mem_iff_getElem.1 hx
    have hlk := hC.lk i (by rw [hC.len] at hi; exact hi)
    have e : pd Qs i = Qs[i] := by simp [pd, List.getD_eq_getElem?_getD, List.getElem?_eq_getElem hi]
    rw [e] at hlk
    rw [hlk.n]
    exact HN.out.2.2 _ (pd_mem (by rw [← HN.out.1, ← hC.len]; exact hi))
  have HEq : Hid (exE Qs h = exE Ps h) := by
    show _ = _
    unfold exE
    rw [check_lk (by rw [hC.len]; exact HN.out.1) (fun i hi => hC.lk i (by rw [HN.out.1]; exact hi))]
  have HNl : Hid (Qs = [] → a6 = none → q6 = 0) := fun _ e => hnil6 e
  clear hC hnil6
  obtain ⟨c0, c1, c2, c3, c4⟩ := HK.out w6 HB6.out
  have hN := exNew w6 B S a6 n q6 Qs HC.out.lib.1 HC.out.lib.2.1 HNl.out HC.out.lib.2.2 hm h
  rw [HEq.out] at hN
  go_wp2_with fail
  clear c0 c1 c2 c3 c4
  refine hN.mono ?_
  clear hN
  rintro e w7 ⟨hr7, hb7⟩
  have HC7 : Hid (CLs w5.heap.size w5 w7 (.slice a6 n q6) Ps Qs n) := HC.out.kept hb7
  have HB7 : Hid (Below W1.heap.size W1 w7) := HB6.out.trans (hb7.mono HB6.out.size)
  have HSp := hidX (spoilLib_any w5.heap.size w5 w7 _ n Ps Qs HC7.out hm HQ.out)
  have HRx : Hid (∀ W, Below W1.heap.size W1 W → Calls Try.prog 14 #[pt D, pt R, .slice ao n cap, .int .i64 h] W fun e w' => NP W (exE Ps h) e w') := fun W hW => rexNew W D R ao n cap Ps (HL.out W hW) HN.out.1 HN.out.2.1 h
  have HZ5 : Hid (W1.heap.size ≤ w5.heap.size) := HB5.out.size
  clear hb7 HC HC7 HB6 HB5 HQ HEq HNl
  rcases hr7 with ⟨hne, rfl⟩ | ⟨h0, X, rfl⟩
  · go_wp2_with fail
    refine HSp.out.mono ?_
    rintro e w8 ⟨rfl, hb8⟩
    have HB8 : Hid (Below W1.heap.size W1 w8) := HB7.out.trans (hb8.mono HZ5.out)
    clear hb8 HB7 HSp
    obtain ⟨c0, c1, c2, c3, c4⟩ := HK.out w8 HB8.out
    go_wp2_with fail
    clear c0 c1 c2 c3 c4
    refine (HRx.out w8 HB8.out).mono ?_
    rintro e w9 ⟨⟨_, rfl⟩ | ⟨h00, _⟩, hb9⟩
    · have HB9 : Hid (Below W1.heap.size W1 w9) := HB8.out.trans (hb9.mono HB8.out.size)
      have hp := HPr.out w9 HB9.out
      have HF : Hid (∀ x0 x1 x2 x3 x4 x5, Below w.heap.size w ((((((w9.setCell ⟨Kb + 1, 0, none⟩ x0).setCell ⟨Kb + 1, 1, none⟩ x1).setCell ⟨Kb + 1, 2, none⟩ x2).setCell ⟨Kb + 1, 3, none⟩ x3).setCell ⟨Kb + 1, 4, none⟩ x4).setCell ⟨Kb + 1, 5, none⟩ x5)) := fun x0 x1 x2 x3 x4 x5 =>
        have hk : w.heap.size ≤ Kb + 1 := by have := HKl.out; omega
        below_set (below_set (below_set (below_set (below_set (below_set (HBw.out _ HB9.out) _ _ hk) _ _ hk) _ _ hk) _ _ hk) _ _ hk) _ _ hk
      obtain ⟨p0, p1, p2, p3, p4, p5, f0, f1, f2, f3, f4, f5⟩ := pairCells hp
      clear hp hb9 HB9 HB8
      generalize exE Ps h = er at *
      have heq : (er == er) = true := by simp
      go_wp2_with (first | (go_at_call 8; refine (HNm _ _).mono ?_; rintro e w10 ⟨rfl, rfl⟩))
      go_ret2
      exact ⟨⟨_, rfl⟩, HF.out _ _ _ _ _ _⟩
    · exact absurd h00 hne
  · go_wp2_with fail
    refine HSp.out.mono ?_
    rintro e w8 ⟨rfl, hb8⟩
    have HB8 : Hid (Below W1.heap.size W1 w8) := HB7.out.trans (hb8.mono HZ5.out)
    clear hb8 HB7 HSp
    obtain ⟨c0, c1, c2, c3, c4⟩ := HK.out w8 HB8.out
    go_wp2_with fail
    clear c0 c1 c2 c3 c4
    refine (HRx.out w8 HB8.out).mono ?_
    rintro e w9 ⟨⟨hne, _⟩ | ⟨_, Y, rfl⟩, hb9⟩
    · exact absurd h0 hne
    · have HB9 : Hid (Below W1.heap.size W1 w9) := HB8.out.trans (hb9.mono HB8.out.size)
      have hp := HPr.out w9 HB9.out
      have HF : Hid (∀ x0 x1 x2 x3 x4 x5, Below w.heap.size w ((((((w9.setCell ⟨Kb + 1, 0, none⟩ x0).setCell ⟨Kb + 1, 1, none⟩ x1).setCell ⟨Kb + 1, 2, none⟩ x2).setCell ⟨Kb + 1, 3, none⟩ x3).setCell ⟨Kb + 1, 4, none⟩ x4).setCell ⟨Kb + 1, 5, none⟩ x5)) := fun x0 x1 x2 x3 x4 x5 =>
        have hk : w.heap.size ≤ Kb + 1 := by have := HKl.out; omega
        below_set (below_set (below_set (below_set (below_set (below_set (HBw.out _ HB9.out) _ _ hk) _ _ hk) _ _ hk) _ _ hk) _ _ hk) _ _ hk
      obtain ⟨p0, p1, p2, p3, p4, p5, f0, f1, f2, f3, f4, f5⟩ := pairCells hp
      clear hp hb9 HB9 HB8 h0
      go_wp2_with (first | (go_at_call 8; refine (HNm _ _).mono ?_; rintro e w10 ⟨rfl, rfl⟩))
      go_ret2
      exact ⟨⟨_, rfl⟩, HF.out _ _ _ _ _ _⟩
set_option maxRecDepth 100000 in
set_option maxHeartbeats 1000000 in
theorem lawEMakes (w : World) (p c k a h : Int) (ao : Option Addr) (n cap : Nat) (Ps : List Pr) (hl : LibAt w ao Ps) (hn : n = Ps.length) (hm : n ≤ 140737488351232) :
    Calls Try.prog 3 #[.agg #[.int .i64 p, .int .i64 c, .int .i64 k, .int .i64 a, .int .i64 h], .slice ao n cap] w fun e w' => e = .returned (.bool true) ∧ Below w.heap.size w w' := by
  obtain ⟨Kb, hKb⟩ : ∃ Kb, Kb = w.heap.size := ⟨_, rfl⟩
  obtain ⟨W1, hW1⟩ : ∃ W1, W1 = w.alloc (.cells #[.int .i64 p, .int .i64 c, .int .i64 k, .int .i64 a, .int .i64 h] 23) := ⟨_, rfl⟩
  have hb1 : Below w.heap.size w W1 := by rw [hW1]; exact (Below.refl _ _).alloc (Nat.le_refl _) _
  have hs1 : W1.heap[Kb]? = some (.cells #[.int .i64 p, .int .i64 c, .int .i64 k, .int .i64 a, .int .i64 h] 23 (0, 0)) := by rw [hW1, hKb]; exact heap_alloc_new _ _ rfl
  have HK : Hid (∀ q, (W1.drewN q).cell? ⟨Kb, 0, none⟩ = some (.int .i64 p) ∧ (W1.drewN q).cell? ⟨Kb, 1, none⟩ = some (.int .i64 c) ∧ (W1.drewN q).cell? ⟨Kb, 2, none⟩ = some (.int .i64 k) ∧ (W1.drewN q).cell? ⟨Kb, 3, none⟩ = some (.int .i64 a) ∧ (W1.drewN q).cell? ⟨Kb, 4, none⟩ = some (.int .i64 h)) := fun q => by
    refine ⟨?_, ?_, ?_, ?_, ?_⟩ <;> simp [World.cell?, hs1]
  have HB1 := hidX hb1
  have HL : Hid (∀ q, LibAt (W1.drewN q) ao Ps) := fun q => hl.kept ⟨hb1.os, hb1.tape, hb1.output, hb1.size, hb1.block⟩
  have HPt := hidX (parts_any W1 ao n cap Ps (hl.kept hb1) hn hm)
  have HN := hidX hn
  clear hl hn hb1 hs1
  go_enter Try.func3, Try.ntmps3
  go_upto_region 1 with fail
  rw [← hW1, ← hKb]
  clear hW1 hKb
  go_wp2_with fail
  refine HPt.out.mono ?_
  rintro e w2 ⟨⟨r, rfl, hr⟩, q, rfl⟩
  clear HPt
  by_cases hr0 : r < 0
  · have HX : Hid (Below w.heap.size w (W1.drewN q)) := ⟨HB1.out.os, HB1.out.tape, HB1.out.output, HB1.out.size, HB1.out.block⟩
    go_wp2
    go_ret
    exact ⟨rfl, HX.out⟩
  have hr1 : ¬ r < 0 := hr0
  obtain ⟨h1, h2⟩ := hr (by omega)
  have HMd := hidX (made_any (W1.drewN q) p c k a h ao n cap Ps (HL.out q) HN.out h1 (fun x hx => (h2 x hx).2))
  obtain ⟨c0, c1, c2, c3, c4⟩ := HK.out q
  have HBq : Hid (Below w.heap.size w (W1.drewN q)) := ⟨HB1.out.os, HB1.out.tape, HB1.out.output, HB1.out.size, HB1.out.block⟩
  clear hr h2
  generalize W1.drewN q = W2 at *
  go_wp2_with fail
  refine HMd.out.mono ?_
  rintro e w3 ⟨⟨P, rfl⟩, hb3⟩
  have HB3 : Hid (Below w.heap.size w w3) := HBq.out.trans (hb3.mono HBq.out.size)
  clear hb3 c0 c1 c2 c3 c4
  go_wp2
  go_ret
  exact ⟨rfl, HB3.out⟩
end Go.Proofs.Ytkpggbjibngplaa
