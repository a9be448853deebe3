import Derived.Test.YtfkijdlggdgfhaaJSBeg
import Derived.Deep.RegionHeld3
import Derived.BigQuiet
import Derived.Deep.RegionLaw
/-
  write.
-/
namespace Go.Proofs.Ytfkijdlggdgfhaa
open Go.RowKit Go.Sort

set_option maxRecDepth 100000 in
set_option maxHeartbeats 16000000 in
theorem write_any (n0 : Nat) (F : Nat → Prop) (w : World) (B S P : Nat) (av : Value) (pre ws : List Vr) (last batch : Int) (x : Wq) (h : WS n0 F w B S P av (pre ++ ws) ws last last batch) (hba : ∀ v ∈ pre ++ ws, v.ba ≤ batch) (hx : WqIn x) (hl : 0 ≤ last ∧ last + 1 ≤ 1000000000000000) (hb : 0 ≤ batch ∧ batch + 100 ≤ 1099511627776) (hp : pre.length ≤ 100) :
    Calls Try.prog 8 #[ptr B, .agg (wqc x)] w fun e w' => WrPost n0 F w B S P pre ws last batch x e w' := by
  obtain ⟨⟨k1, k2⟩, la, ix, fl, ci, cv, dr⟩ := x
  obtain ⟨X, hX⟩ : ∃ X, X = w.heap.size := ⟨_, rfl⟩
  obtain ⟨W0, hW0⟩ : ∃ W0, W0 = w.alloc (.cells #[.int .i64 k1, .int .i64 k2, .int .i64 la, .int .i64 ix, .bool fl, .bool ci, .int .i64 cv, .int .i64 dr] 32) := ⟨_, rfl⟩
  have HB0 : Hid (Below w.heap.size w W0) := by show Below _ _ _; rw [hW0]; exact (Below.refl _ _).alloc (Nat.le_refl _) _
  have HXB : Hid (W0.heap[X]? = some (.cells #[.int .i64 k1, .int .i64 k2, .int .i64 la, .int .i64 ix, .bool fl, .bool ci, .int .i64 cv, .int .i64 dr] 32 (0, 0))) := by show _ = _; rw [hW0, hX]; exact heap_alloc_new _ _ rfl
  have HM0 : Hid (WS n0 (fun k => F k ∨ k = X) W0 B S P av (pre ++ ws) ws last last batch) := h.box HB0.out (by omega) (blk_lt HXB.out)
  have HXc : Hid (∀ W, Kp n0 (fun k => F k ∨ k = X) W0 W → (W.cell? ⟨X, 0, none⟩ = some (.int .i64 k1) ∧ W.cell? ⟨X, 1, none⟩ = some (.int .i64 k2) ∧ W.cell? ⟨X, 2, none⟩ = some (.int .i64 la) ∧ W.cell? ⟨X, 3, none⟩ = some (.int .i64 ix)) ∧ (W.cell? ⟨X, 4, none⟩ = some (.bool fl) ∧ W.cell? ⟨X, 5, none⟩ = some (.bool ci) ∧ W.cell? ⟨X, 6, none⟩ = some (.int .i64 cv) ∧ W.cell? ⟨X, 7, none⟩ = some (.int .i64 dr))) := fun W hW => by
    have h1 := hW.heap (.inr rfl) HXB.out
    refine ⟨⟨?_, ?_, ?_, ?_⟩, ?_, ?_, ?_, ?_⟩ <;> (rw [World.cell?, h1]; rfl)
  have HPre : Hid ((∀ v ∈ pre ++ ws, v.ba ≤ batch) ∧ WqIn ⟨(k1, k2), la, ix, fl, ci, cv, dr⟩ ∧ pre.length ≤ 100) := ⟨hba, hx, hp⟩
  obtain ⟨ao, c, rfl⟩ := ownL_slice h.al
  obtain ⟨m, hm⟩ : ∃ m, m = ws.length := ⟨_, rfl⟩
  have HM : Hid (m = ws.length) := hm
  have hmb : m ≤ 65536 := by have := h.st.lt.2.2.2; rw [List.length_append] at this; omega
  have HXw : Hid (X = w.heap.size) := hX
  clear h hba hx hp hX
  rw [← hm] at HM0
  show Calls Try.prog 8 #[ptr B, .agg #[.int .i64 k1, .int .i64 k2, .int .i64 la, .int .i64 ix, .bool fl, .bool ci, .int .i64 cv, .int .i64 dr]] w _
  clear hm
  obtain ⟨_, b1, _⟩ := HM0.out.cells
  obtain ⟨_, _, _, _, x7⟩ := HXc.out W0 (Kp.refl _ _ _)
  go_enter Try.func8, Try.ntmps8
  go_upto_region 1 with fail
  rw [← hW0, ← HXw.out]
  clear hW0
  go_cut [20] (fun u wx => u = .bool (decide (0 ≤ dr ∧ 0 < m)) ∧ wx = W0)
  case first =>
    by_cases hd : 0 ≤ dr
    · have hd' : decide (0 ≤ dr) = true := decide_eq_true hd
      by_cases hm0 : 0 < m
      · have hm1 : decide ((0 : Int) < (m : Int)) = true := decide_eq_true (by omega)
        have HE : Hid (decide (0 ≤ dr ∧ 0 < m) = true) := decide_eq_true ⟨hd, hm0⟩
        go_wp2
        go_meet
        exact ⟨by rw [HE.out], rfl⟩
      · have hm1 : decide ((0 : Int) < (m : Int)) = false := decide_eq_false (by omega)
        have HE : Hid (decide (0 ≤ dr ∧ 0 < m) = false) := decide_eq_false (fun h => hm0 h.2)
        go_wp2
        go_meet
        exact ⟨by rw [HE.out], rfl⟩
    · have hd' : decide (0 ≤ dr) = false := decide_eq_false hd
      have HE : Hid (decide (0 ≤ dr ∧ 0 < m) = false) := decide_eq_false (fun h => hd h.1)
      go_wp2
      go_meet
      exact ⟨by rw [HE.out], rfl⟩
  case rest =>
  obtain ⟨hu20, hwc⟩ := hcut
  subst hu20
  have hwc' := hwc.symm
  subst hwc'
  clear hwc
  go_upto_if 20 with fail
  go_cut [] (fun wx => ∃ ao1 c1, Hid (M1 n0 (fun k => F k ∨ k = X) W0 wx B S P ao1 c1 pre (dropL dr ws) last batch))
  case first =>
    by_cases hd : 0 ≤ dr ∧ 0 < m
    · have hd' : decide (0 ≤ dr ∧ 0 < m) = true := decide_eq_true hd
      rw [hd']
      go_upto_region 2 with fail
      have hne : ws ≠ [] := fun e => by have := HM.out; rw [e] at this; simp at this; omega
      obtain ⟨hil, hie⟩ := dropI_lt (dr := dr) hne
      rw [← HM.out] at hil hie
      have HE : Hid (dropL dr ws = ws.take (dropI dr ws) ++ ws.drop (dropI dr ws + 1)) := dropL_yes ⟨hd.1, hne⟩
      have htm : dr.tmod (m : Int) = (dropI dr ws : Int) := by rw [Int.tmod_eq_emod_of_nonneg hd.1]; exact hie
      obtain ⟨g, cap, cur, hsl, hgb, hgc, hgl, hcell⟩ : ∃ g cap cur, Value.slice ao m c = .slice (some ⟨g, 0, none⟩) m cap ∧ n0 ≤ g ∧ W0.heap[g]? = some (.cells cur 50 (0, 0)) ∧ m ≤ cap ∧ ∀ j u, (lds ws)[j]? = some u → W0.cell? ⟨g, j, none⟩ = some u := by
        rcases HM0.out.al.shape with ⟨_, h0⟩ | ⟨g, cap, cur, h1, h2, h3, h4, h5⟩
        · exact absurd h0 hne
        · rw [← HM.out] at h1 h4
          exact ⟨g, cap, cur, h1, h2, h3, h4, h5⟩
      simp only [Value.slice.injEq, true_and] at hsl
      obtain ⟨rfl, rfl⟩ := hsl
      have HCl : Hid (∀ j u, (lds ws)[j]? = some u → W0.cell? ⟨g, j, none⟩ = some u) := hcell
      have hiL : dropI dr ws < ws.length := by rw [← HM.out]; exact hil
      obtain ⟨nn, hnn⟩ : ∃ nn, nn = ws[dropI dr ws].n := ⟨_, rfl⟩
      have HNN : Hid (∃ hi : dropI dr ws < ws.length, nn = ws[dropI dr ws].n) := ⟨hiL, hnn⟩
      generalize hI : dropI dr ws = i at *
      have hgi : W0.cell? ⟨g, i * 8, none⟩ = some (.int .i64 nn) := by
        have h1 := lds_at (ws := ws) (i := i) (j := 0) hiL (by omega)
        rw [Nat.add_zero] at h1
        exact HCl.out _ _ (h1.trans (by rw [hnn]; rfl))
      have HI : Hid (dropI dr ws = i) := hI
      clear hne hcell hnn hI hgc hgb hie hiL
      have hm0 : ¬ (m : Int) = 0 := by omega
      go_quiet (fail)
      have HM1 : Hid (WS n0 (fun k => F k ∨ k = X) (W0.drewN nq) B S P (.slice (some ⟨g, 0, none⟩) m c) (pre ++ ws) ws last last batch) := HM0.out.kept (drew_below W0 nq)
      have HK1 : Hid (Kp n0 (fun k => F k ∨ k = X) W0 (W0.drewN nq)) := Kp.ofBelow (drew_below W0 nq)
      have HC1 : Hid (∀ j u, (lds ws)[j]? = some u → (W0.drewN nq).cell? ⟨g, j, none⟩ = some u) := HCl.out
      have hg1 : (W0.drewN nq).cell? ⟨g, i * 8, none⟩ = some (.int .i64 nn) := hgi
      generalize W0.drewN nq = W1 at *
      clear b1 x7 hgi HCl htm
      obtain ⟨q0, q1, _⟩ := HM1.out.cells
      have HRm : Hid (Calls Try.prog 20 #[ptr S, .int .i64 nn] W1.drew fun e w' => e = .returned (.int .i64 0) ∧ WS n0 (fun k => F k ∨ k = X) w' B S P (.slice (some ⟨g, 0, none⟩) m c) (pre ++ (ws.take i ++ ws.drop (i + 1))) ws last last batch ∧ Kp n0 (fun k => F k ∨ k = X) W0 w') := by
        obtain ⟨h1, h2⟩ := HNN.out
        refine ((HM1.out.kept (drew_below W1 1)).remove h1 nn h2).mono fun e w' ⟨a1, a2, a3⟩ => ⟨a1, a2, HK1.out.trans ((Kp.ofBelow (drew_below W1 1)).trans a3)⟩
      go_upto_region 3 with fail
      go_region_held3 (fun w' => w'.cell? ⟨B, 0, none⟩ = some (ptr S) ∧ w'.cell? ⟨B, 1, none⟩ = some (.slice (some ⟨g, 0, none⟩) m c) ∧ w'.cell? ⟨g, i * 8, none⟩ = some (.int .i64 nn)) (first | with_reducible exact HQ2.out | go_keep) (first | (go_at_call 20; refine HRm.out.mono ?_; rintro e w2 ⟨rfl, hw2, hk2⟩; have HM2 : Hid (WS n0 (fun k => F k ∨ k = X) w2 B S P (.slice (some ⟨g, 0, none⟩) m c) (pre ++ (ws.take i ++ ws.drop (i + 1))) ws last last batch) := hw2; have HK2 : Hid (Kp n0 (fun k => F k ∨ k = X) W0 w2) := hk2; have HQ2 : Hid (w2.cell? ⟨B, 0, none⟩ = some (ptr S) ∧ w2.cell? ⟨B, 1, none⟩ = some (.slice (some ⟨g, 0, none⟩) m c) ∧ w2.cell? ⟨g, i * 8, none⟩ = some (.int .i64 nn)) := ⟨hw2.cells.1, hw2.cells.2.1, WS.numAt hw2 HNN.out⟩; clear hw2 hk2))
      clear q0 q1 hg1 HRm HM1 HK1 HC1 HQ2
      have hB1 := HM2.out.cells.2.1
      have hBf := HM2.out.frozen 1
      have hBa : ∀ o, (w2.drew.alloc o).cell? ⟨B, 1, none⟩ = some (.slice (some ⟨g, 0, none⟩) m c) := fun o => Lib.cell?_alloc_some (W := w2.drew) _ hB1
      have hBb : ∀ o, (w2.alloc o).cell? ⟨B, 1, none⟩ = some (.slice (some ⟨g, 0, none⟩) m c) := fun o => Lib.cell?_alloc_some (W := w2) _ hB1
      have HLn : Hid ((ws.take i).length = i ∧ (ws.drop (i + 1)).length = m - (i + 1)) := by
        refine ⟨by rw [List.length_take, ← HM.out]; omega, by rw [List.length_drop, ← HM.out]⟩
      have HA1 : Hid (∀ ty, ∃ v' U', (Builtin.append_ #[34, 34] ty #[.slice (some ⟨w2.heap.size, 0, none⟩) 0 0, .slice (some ⟨g, 0, none⟩) i c]).run Try.prog (w2.alloc (.cells #[] 50)).drew = .ok v' U' ∧ DR w2 U' v' (ws.take i)) := fun ty => by
        have h1 := (DR.made w2 1).app (ys := ws.take i) ⟨g, 0, none⟩ c (fun j x hx => by rw [addr_add, Nat.zero_add]; exact HM2.out.cellAt (lds_take hx)) (by rw [HLn.out.1]; simp; omega) ty
        rw [HLn.out.1, List.nil_append] at h1
        exact h1
      have HA1b : Hid (∀ ty, ∃ v' U', (Builtin.append_ #[34, 34] ty #[.slice (some ⟨w2.heap.size, 0, none⟩) 0 0, .slice (some ⟨g, 0, none⟩) i c]).run Try.prog (w2.drew.alloc (.cells #[] 50)) = .ok v' U' ∧ DR w2 U' v' (ws.take i)) := HA1.out
      have HA2 : Hid (∀ (U : World) v1, DR w2 U v1 (ws.take i) → ∀ ty, ∃ v' U', (Builtin.append_ #[34, 34] ty #[v1, .slice (some ⟨g, if c = i + 1 then 0 else (i + 1) * 8, none⟩) (m - (i + 1)) (c - (i + 1))]).run Try.prog U = .ok v' U' ∧ DR w2 U' v' (ws.take i ++ ws.drop (i + 1))) := fun U v1 hv1 ty => by
        have h1 := hv1.app (ys := ws.drop (i + 1)) ⟨g, if c = i + 1 then 0 else (i + 1) * 8, none⟩ (c - (i + 1)) (fun j x hx => by
          rw [addr_add]
          by_cases hc : c = i + 1
          · have h0 : ws.drop (i + 1) = [] := List.length_eq_zero_iff.1 (by rw [HLn.out.2]; omega)
            rw [h0] at hx
            simp [lds] at hx
          · rw [if_neg hc]
            exact HM2.out.cellAt (lds_drop (by rw [← HM.out]; omega) hx)) (by rw [HLn.out.1, HLn.out.2]; omega) ty
        rw [HLn.out.2] at h1
        exact h1
      have hmc : m ≤ c := hgl
      have hic : i + 1 ≤ c := by omega
      have z1 : (0 : Int) ≤ (i : Int) := by omega
      have z2 : (i : Int) ≤ (c : Int) := by omega
      have z3 : (i : Int) ≤ (m : Int) := by omega
      have z4 : wrap64 ((i : Int) + 1) = (i : Int) + 1 := by unfold wrap64; omega
      have z5 : IntKind.i64.wrap ((i : Int) + 1) = (i : Int) + 1 := by rw [IntKind.wrap_i64]; omega
      have z6 : (0 : Int) ≤ (i : Int) + 1 := by omega
      have z7 : (i : Int) + 1 ≤ (m : Int) := by omega
      have z8 : (m : Int) ≤ (c : Int) := by omega
      have z9 : ((i : Int) + 1).toNat = i + 1 := by omega
      go_upto_region 5 with fail
      by_cases hc : c = i + 1
      · have hmi : m = i + 1 := by omega
        have HA2z : Hid (∀ (U : World) v1, DR w2 U v1 (ws.take i) → ∀ ty, ∃ v' U', (Builtin.append_ #[34, 34] ty #[v1, .slice (some ⟨g, 0, none⟩) 0 0]).run Try.prog U = .ok v' U' ∧ DR w2 U' v' (ws.take i ++ ws.drop (i + 1))) := by
          have h1 := HA2.out
          rw [if_pos hc, hmi, hc] at h1
          simp only [Nat.sub_self] at h1
          exact h1
        subst hc hmi
        have y2 : (i : Int) ≤ (i : Int) + 1 := by omega
        have y3 : ((i + 1 : Nat) : Int) = (i : Int) + 1 := by omega
        have y4 : (i : Int) ≤ ((i + 1 : Nat) : Int) := by omega
        have y5 : ((i + 1 : Nat) : Int).toNat = i + 1 := by omega
        have HB3 : Hid (∀ (U : World) v zs, DR w2 U v zs → U.cell? ⟨B, 1, none⟩ = some (.slice (some ⟨g, 0, none⟩) (i + 1) (i + 1)) ∧ U.frozen? ⟨B, 1, none⟩ = false) := fun U v zs hd => ⟨(hd.bel.cell (p := ⟨B, 1, none⟩) (blk_lt HM2.out.bx)).trans hB1, (HM2.out.kept hd.bel).frozen 1⟩
        have HFin : Hid (∀ (U : World) v, DR w2 U v (ws.take i ++ ws.drop (i + 1)) → ∃ a4 c4, v = .slice a4 i c4 ∧ Hid (M1 n0 (fun k => F k ∨ k = X) W0 (U.setCell ⟨B, 1, none⟩ v) B S P a4 c4 pre (dropL dr ws) last batch)) := fun U v hd4 => by
          obtain ⟨a4, c4, hv4⟩ := ownL_slice hd4.own
          have hl4 : (ws.take i ++ ws.drop (i + 1)).length = i := by rw [List.length_append, HLn.out.1, HLn.out.2]; omega
          refine ⟨a4, c4, by rw [← hl4]; exact hv4, ?_, ?_⟩
          · rw [HE.out, ← hv4]; exact HM2.out.newAll hd4
          · refine HK2.out.trans ⟨hd4.bel.os, hd4.bel.tape, hd4.bel.output, by simpa using hd4.bel.size, fun k hk hF => (heap_setCell_other _ _ _ _ (fun e => ?_)).trans (hd4.bel.block k hk)⟩
            have e' : k = B := e
            rcases hF with h1 | h1
            · have := HM2.out.Bn; omega
            · exact HM2.out.FB (e' ▸ h1)
        go_region_law (first
          | (refine step_app (post := fun v U => DR w2 U v (ws.take i)) rfl _ _ 34 rfl (.slice (some ⟨w2.heap.size, 0, none⟩) 0 0) (.slice (some ⟨g, 0, none⟩) i (i + 1)) (by simp [Act.eval, Act.put]) (by simp [Act.eval, Act.put]) ?_ ?_; (first | with_reducible exact HA1.out | with_reducible exact HA1b.out); rintro v3 w3 hd3; have HD3 : Hid (DR w2 w3 v3 (ws.take i)) := hd3; obtain ⟨hB3, hF3⟩ := HB3.out _ _ _ hd3; clear hd3; obtain ⟨a3, c3, hv3⟩ := ownL_slice HD3.out.own; rw [HLn.out.1] at hv3; subst hv3)
          | (refine step_app (post := fun v U => DR w2 U v (ws.take i ++ ws.drop (i + 1))) rfl _ _ 34 rfl (.slice a3 i c3) (.slice (some ⟨g, 0, none⟩) 0 0) (by simp [Act.eval, Act.put]) (by simp [Act.eval, Act.put]) ?_ ?_; (with_reducible exact HA2z.out _ _ HD3.out); rintro v4 w4 hd4; obtain ⟨a4, c4, hv4, HFn⟩ := HFin.out _ _ hd4; obtain ⟨hB4, hF4⟩ := HB3.out _ _ _ hd4; clear hd4; subst hv4))
        all_goals (go_wp2; go_meet; exact ⟨a4, c4, HFn⟩)
      · rw [if_neg hc] at HA2
        have HB3 : Hid (∀ (U : World) v zs, DR w2 U v zs → U.cell? ⟨B, 1, none⟩ = some (.slice (some ⟨g, 0, none⟩) m c) ∧ U.frozen? ⟨B, 1, none⟩ = false) := fun U v zs hd => ⟨(hd.bel.cell (p := ⟨B, 1, none⟩) (blk_lt HM2.out.bx)).trans hB1, (HM2.out.kept hd.bel).frozen 1⟩
        have HFin : Hid (∀ (U : World) v, DR w2 U v (ws.take i ++ ws.drop (i + 1)) → ∃ a4 c4, v = .slice a4 (m - 1) c4 ∧ Hid (M1 n0 (fun k => F k ∨ k = X) W0 (U.setCell ⟨B, 1, none⟩ v) B S P a4 c4 pre (dropL dr ws) last batch)) := fun U v hd4 => by
          obtain ⟨a4, c4, hv4⟩ := ownL_slice hd4.own
          have hl4 : (ws.take i ++ ws.drop (i + 1)).length = m - 1 := by rw [List.length_append, HLn.out.1, HLn.out.2]; omega
          refine ⟨a4, c4, by rw [← hl4]; exact hv4, ?_, ?_⟩
          · rw [HE.out, ← hv4]; exact HM2.out.newAll hd4
          · refine HK2.out.trans ⟨hd4.bel.os, hd4.bel.tape, hd4.bel.output, by simpa using hd4.bel.size, fun k hk hF => (heap_setCell_other _ _ _ _ (fun e => ?_)).trans (hd4.bel.block k hk)⟩
            have e' : k = B := e
            rcases hF with h1 | h1
            · have := HM2.out.Bn; omega
            · exact HM2.out.FB (e' ▸ h1)
        go_region_law (first
          | (refine step_app (post := fun v U => DR w2 U v (ws.take i)) rfl _ _ 34 rfl (.slice (some ⟨w2.heap.size, 0, none⟩) 0 0) (.slice (some ⟨g, 0, none⟩) i c) (by simp [Act.eval, Act.put]) (by simp [Act.eval, Act.put]) ?_ ?_; (first | with_reducible exact HA1.out | with_reducible exact HA1b.out); rintro v3 w3 hd3; have HD3 : Hid (DR w2 w3 v3 (ws.take i)) := hd3; obtain ⟨hB3, hF3⟩ := HB3.out _ _ _ hd3; clear hd3; obtain ⟨a3, c3, hv3⟩ := ownL_slice HD3.out.own; rw [HLn.out.1] at hv3; subst hv3)
          | (refine step_app (post := fun v U => DR w2 U v (ws.take i ++ ws.drop (i + 1))) rfl _ _ 34 rfl (.slice a3 i c3) (.slice (some ⟨g, (i + 1) * 8, none⟩) (m - (i + 1)) (c - (i + 1))) (by simp [Act.eval, Act.put]) (by simp [Act.eval, Act.put]) ?_ ?_; (with_reducible exact HA2.out _ _ HD3.out); rintro v4 w4 hd4; obtain ⟨a4, c4, hv4, HFn⟩ := HFin.out _ _ hd4; obtain ⟨hB4, hF4⟩ := HB3.out _ _ _ hd4; clear hd4; subst hv4))
        all_goals (go_wp2; go_meet; exact ⟨a4, c4, HFn⟩)
    · have hd' : decide (0 ≤ dr ∧ 0 < m) = false := decide_eq_false hd
      have HE : Hid (dropL dr ws = ws) := dropL_no (fun h => hd ⟨h.1, by rw [HM.out]; exact List.length_pos_iff.2 h.2⟩)
      rw [hd']
      go_wp2
      go_meet
      exact ⟨ao, c, by rw [HE.out, ← HM.out]; exact HM0.out, Kp.refl _ _ _⟩
  case rest =>
  obtain ⟨ao1, c1, HM1⟩ := hcut
  clear HM0 b1 x7
  obtain ⟨us, hus⟩ : ∃ us, us = dropL dr ws := ⟨_, rfl⟩
  have HUs : Hid (us = dropL dr ws) := hus
  rw [← hus] at HM1
  have HBa : Hid (∀ v ∈ pre ++ us, v.ba ≤ batch) := fun v hv => HPre.out.1 v (by
    rcases List.mem_append.1 hv with h1 | h1
    · exact List.mem_append.2 (.inl h1)
    · rw [hus] at h1; exact List.mem_append.2 (.inr ((dropL_sub dr ws).subset h1)))
  have hul : us.length ≤ 65536 := by have := HM1.out.ws.st.lt.2.2.2; rw [List.length_append] at this; omega
  clear hus
  obtain ⟨p, hp⟩ : ∃ p, p = us.length := ⟨_, rfl⟩
  have HP : Hid (p = us.length) := hp
  rw [← hp] at hul
  have HW1 : Hid (WS n0 (fun k => F k ∨ k = X) wc B S P (.slice ao1 p c1) (pre ++ us) us last last batch ∧ Kp n0 (fun k => F k ∨ k = X) W0 wc) := ⟨by rw [hp]; exact HM1.out.ws, HM1.out.kp⟩
  clear HM1 hp
  obtain ⟨s0, s1, s2, s3⟩ := HW1.out.1.cells
  obtain ⟨⟨x0, x1, x2, x3⟩, x4, x5, x6, _⟩ := HXc.out wc HW1.out.2
  have HCk := hidC (check_any wc k1 k2)
  cases hkey : isKey (k1, k2) with
  | false =>
    rw [hkey] at HCk
    clear hkey
    go_wp2_with fail
    refine HCk.out.mono ?_
    rintro e w2 ⟨rfl, q, os, rfl⟩
    have HW2 : Hid (WS n0 (fun k => F k ∨ k = X) (grow (wc.drewN q) os) B S P (.slice ao1 p c1) (pre ++ us) us last last batch ∧ Kp n0 (fun k => F k ∨ k = X) W0 (grow (wc.drewN q) os)) := ⟨HW1.out.1.kept (Grew.below ⟨q, os, rfl⟩), HW1.out.2.trans (Kp.ofBelow (Grew.below ⟨q, os, rfl⟩))⟩
    clear HCk s0 s1 s2 s3 x0 x1 x2 x3 x4 x5 x6
    have he : errOf false 20 = 20 := rfl
    rw [he]
    clear he
    go_wp2
    go_ret
    exact wr_same HW2.out.1 HW2.out.2 HB0.out HUs.out
  | true =>
    rw [hkey] at HCk
    have HKey : Hid (isKey (k1, k2) = true) := hkey
    clear hkey
    go_wp2_with fail
    refine HCk.out.mono ?_
    rintro e w2 ⟨rfl, q, os, rfl⟩
    have HW2 : Hid (WS n0 (fun k => F k ∨ k = X) (grow (wc.drewN q) os) B S P (.slice ao1 p c1) (pre ++ us) us last last batch ∧ Kp n0 (fun k => F k ∨ k = X) W0 (grow (wc.drewN q) os)) := ⟨HW1.out.1.kept (Grew.below ⟨q, os, rfl⟩), HW1.out.2.trans (Kp.ofBelow (Grew.below ⟨q, os, rfl⟩))⟩
    clear HCk s0 s1 s2 s3 x0 x1 x2 x3 x4 x5 x6 HW1
    have he : errOf true 20 = 0 := rfl
    rw [he]
    clear he
    generalize grow (wc.drewN q) os = W2 at *
    obtain ⟨s0, s1, s2, s3⟩ := HW2.out.1.cells
    obtain ⟨⟨x0, x1, x2, x3⟩, x4, x5, x6, _⟩ := HXc.out W2 HW2.out.2
    by_cases hfull : 65000 ≤ p
    · have hf1 : decide ((65000 : Int) ≤ (p : Int)) = true := decide_eq_true (by omega)
      have hf2 : (65000 : Int) ≤ (p : Int) := by omega
      go_wp2
      go_ret
      exact wr_same HW2.out.1 HW2.out.2 HB0.out HUs.out
    · have hf1 : decide ((65000 : Int) ≤ (p : Int)) = false := decide_eq_false (by omega)
      have hf2 : ¬ (65000 : Int) ≤ (p : Int) := by omega
      obtain ⟨r, hr, hr2⟩ := umod la 100 (by omega)
      have hr3 : wrap64 (r : Int) = (r : Int) := by unfold wrap64; omega
      have hr4 : wrap64 (1 + (r : Int)) = 1 + (r : Int) := by unfold wrap64; omega
      have hr5 : wrap64 (batch + (1 + (r : Int))) = batch + (1 + (r : Int)) := by unfold wrap64; omega
      have f3 := HW2.out.1.frozen 3
      go_upto_region 8 with fail
      go_region
      have HW3 : Hid (WS n0 (fun k => F k ∨ k = X) (W2.setCell ⟨B, 3, none⟩ (.int .i64 (batch + (1 + (r : Int))))).drew B S P (.slice ao1 p c1) (pre ++ us) us last last (batch + (1 + (r : Int))) ∧ Kp n0 (fun k => F k ∨ k = X) W0 (W2.setCell ⟨B, 3, none⟩ (.int .i64 (batch + (1 + (r : Int))))).drew) := by
        refine ⟨(HW2.out.1.setBa _).kept (drew_below _ 1), HW2.out.2.trans ⟨rfl, rfl, rfl, by simp, fun k hk hF => heap_setCell_other W2 ⟨B, 3, none⟩ k _ (fun e => ?_)⟩⟩
        have e' : k = B := e
        rcases hF with h1 | h1
        · have := HW2.out.1.Bn; omega
        · exact HW2.out.1.FB (e' ▸ h1)
      generalize (W2.setCell ⟨B, 3, none⟩ (.int .i64 (batch + (1 + (r : Int))))).drew = W3 at *
      obtain ⟨nb, hnb⟩ : ∃ nb, nb = batch + (1 + (r : Int)) := ⟨_, rfl⟩
      rw [← hnb] at HW3
      have HNb : Hid (batch < nb ∧ nb ≤ batch + 100) := ⟨by omega, by omega⟩
      have hnb2 : 0 ≤ nb ∧ nb ≤ 1099511627776 := by omega
      clear hnb hr hr2 hr3 hr4 hr5 f3 s0 s1 s2 s3 x0 x1 x2 x3 x4 x5 x6 HW2
      obtain ⟨iy, hr, hr2⟩ := umod ix 64 (by omega)
      have hr3 : wrap64 (iy : Int) = (iy : Int) := by unfold wrap64; omega
      obtain ⟨s0, s1, s2, s3⟩ := HW3.out.1.cells
      obtain ⟨⟨x0, x1, x2, x3⟩, x4, x5, x6, _⟩ := HXc.out W3 HW3.out.2
      have x3a : ∀ o, (W3.alloc o).cell? ⟨X, 3, none⟩ = some (.int .i64 ix) := fun o => Lib.cell?_alloc_some _ x3
      have s3a : ∀ o, (W3.alloc o).cell? ⟨B, 3, none⟩ = some (.int .i64 nb) := fun o => Lib.cell?_alloc_some _ s3
      go_upto_region 9 with fail
      go_region
      have HB4 : Hid (Below W3.heap.size W3 (W3.alloc (.cells #[.int .i64 nb, .int .i64 (iy : Int)] 48)).drew) := by
        have h1 := (Below.refl W3.heap.size W3).alloc (Nat.le_refl _) (.cells #[.int .i64 nb, .int .i64 (iy : Int)] 48)
        exact ⟨h1.os, h1.tape, h1.output, h1.size, h1.block⟩
      have HPb : Hid ((W3.alloc (.cells #[.int .i64 nb, .int .i64 (iy : Int)] 48)).drew.heap[W3.heap.size]? = some (.cells #[.int .i64 nb, .int .i64 (iy : Int)] 48 (0, 0))) := heap_alloc_new _ _ rfl
      have HW4 : Hid (WS n0 (fun k => (F k ∨ k = X) ∨ k = W3.heap.size) (W3.alloc (.cells #[.int .i64 nb, .int .i64 (iy : Int)] 48)).drew B S P (.slice ao1 p c1) (pre ++ us) us last last nb) := HW3.out.1.box HB4.out (Nat.le_refl _) (blk_lt HPb.out)
      have HK4 : Hid (Kp n0 (fun k => F k ∨ k = X) W0 (W3.alloc (.cells #[.int .i64 nb, .int .i64 (iy : Int)] 48)).drew) := HW3.out.2.trans (Kp.ofBelow HB4.out)
      generalize (W3.alloc (.cells #[.int .i64 nb, .int .i64 (iy : Int)] 48)).drew = W4 at *
      generalize W3.heap.size = Q at *
      clear x3a s3a s0 s1 s2 s3 x0 x1 x2 x3 x4 x5 x6 HW3 HB4 hr hr3
      have HCl : Hid (∀ W lb' vs' la', WS n0 (fun k => (F k ∨ k = X) ∨ k = Q) W B S P (.slice ao1 p c1) vs' us lb' la' nb → Kp n0 (fun k => (F k ∨ k = X) ∨ k = Q) W4 W → W.cell? ⟨B, 0, none⟩ = some (ptr S) ∧ (W.cell? ⟨X, 0, none⟩ = some (.int .i64 k1) ∧ W.cell? ⟨X, 1, none⟩ = some (.int .i64 k2)) ∧ W.cell? ⟨Q, 0, none⟩ = some (.int .i64 nb) ∧ W.cell? ⟨Q, 1, none⟩ = some (.int .i64 (iy : Int))) := fun W lb' vs' la' h1 h2 => by
        have h3 := h2.heap (.inr rfl) HPb.out
        have h4 := HXc.out W (HK4.out.trans (h2.mono (fun k _ hF => .inl hF)))
        exact ⟨h1.cells.1, ⟨h4.1.1, h4.1.2.1⟩, by rw [World.cell?, h3]; rfl, by rw [World.cell?, h3]; rfl⟩
      have HIn : Hid (Calls Try.prog 19 #[ptr S, .agg #[.int .i64 k1, .int .i64 k2], .int .i64 nb, .int .i64 (iy : Int)] W4.drew fun e w' => e = .returned (.tuple #[.int .i64 (last + 1), .int .i64 0]) ∧ (∃ b, WS n0 (fun k => (F k ∨ k = X) ∨ k = Q) w' B S P (.slice ao1 p c1) (pre ++ us ++ [xV b last (k1, k2) nb (iy : Int)]) us last (last + 1) nb) ∧ Kp n0 (fun k => (F k ∨ k = X) ∨ k = Q) W4 w') := by
        have h0 := HW4.out.kept (drew_below W4 1)
        have hlen : (pre ++ us).length < 65536 := by rw [List.length_append, ← HP.out]; have := HPre.out.2.2; omega
        refine (h0.insert k1 k2 nb (iy : Int) HPre.out.2.1.k HKey.out (by have := HNb.out; omega) (by omega) hl hlen (fun v hv => by have := HBa.out v hv; have := HNb.out; omega)).mono fun e w' ⟨a1, a2, a3⟩ => ⟨a1, a2, (Kp.ofBelow (drew_below W4 1)).trans a3⟩
      obtain ⟨s0, ⟨x0, x1⟩, y0, y1⟩ := HCl.out W4 _ _ _ HW4.out (Kp.refl _ _ _)
      go_upto_region 10 with fail
      go_region_held3 (fun w' => w'.cell? ⟨B, 0, none⟩ = some (ptr S) ∧ (w'.cell? ⟨X, 0, none⟩ = some (.int .i64 k1) ∧ w'.cell? ⟨X, 1, none⟩ = some (.int .i64 k2)) ∧ w'.cell? ⟨Q, 0, none⟩ = some (.int .i64 nb) ∧ w'.cell? ⟨Q, 1, none⟩ = some (.int .i64 (iy : Int))) (first | with_reducible exact HQ5.out | go_keep) (first | (go_at_call 19; refine HIn.out.mono ?_; rintro e w5 ⟨rfl, ⟨b, hw5⟩, hk5⟩; have HQ5 := hidC (HCl.out _ _ _ _ hw5 hk5); have HW5 := hidC hw5; have HK5 := hidC hk5; clear hw5 hk5))
      clear s0 x0 x1 y0 y1 HIn HCl HQ5 HW4
      obtain ⟨_, _, s2, _⟩ := HW5.out.cells
      have f2 := HW5.out.frozen 2
      have hlw : wrap64 (last + 1) = last + 1 := by unfold wrap64; omega
      obtain ⟨W6, hW6⟩ : ∃ W6, W6 = w5.setCell ⟨B, 2, none⟩ (.int .i64 (last + 1)) := ⟨_, rfl⟩
      have HW6 : Hid (WS n0 (fun k => (F k ∨ k = X) ∨ k = Q) W6 B S P (.slice ao1 p c1) (pre ++ us ++ [xV b last (k1, k2) nb (iy : Int)]) us (last + 1) (last + 1) nb) := by show WS _ _ _ _ _ _ _ _ _ _ _ _; rw [hW6]; exact HW5.out.setLb _
      have HK6 : Hid (Kp n0 (fun k => (F k ∨ k = X) ∨ k = Q) W4 W6) := by
        refine HK5.out.trans ?_
        rw [hW6]
        refine ⟨rfl, rfl, rfl, by simp, fun k hk hF => heap_setCell_other w5 ⟨B, 2, none⟩ k _ (fun e => ?_)⟩
        have e' : k = B := e
        rcases hF with h1 | h1
        · have := HW5.out.Bn; omega
        · exact HW5.out.FB (e' ▸ h1)
      have HK6b : Hid (Kp n0 (fun k => F k ∨ k = X) W0 W6) := HK4.out.trans (HK6.out.mono (fun k _ hF => .inl hF))
      obtain ⟨⟨x0, x1, _⟩, x4, x5, x6, _⟩ := HXc.out W6 HK6b.out
      have hQ6 := HK6.out.heap (.inr rfl) HPb.out
      have y0 : W6.cell? ⟨Q, 0, none⟩ = some (.int .i64 nb) := by rw [World.cell?, hQ6]; rfl
      have y1 : W6.cell? ⟨Q, 1, none⟩ = some (.int .i64 (iy : Int)) := by rw [World.cell?, hQ6]; rfl
      have x0a : ∀ o, (W6.alloc o).cell? ⟨X, 0, none⟩ = some (.int .i64 k1) := fun o => Lib.cell?_alloc_some _ x0
      have x1a : ∀ o, (W6.alloc o).cell? ⟨X, 1, none⟩ = some (.int .i64 k2) := fun o => Lib.cell?_alloc_some _ x1
      have y0a : ∀ o, (W6.alloc o).cell? ⟨Q, 0, none⟩ = some (.int .i64 nb) := fun o => Lib.cell?_alloc_some _ y0
      have y1a : ∀ o, (W6.alloc o).cell? ⟨Q, 1, none⟩ = some (.int .i64 (iy : Int)) := fun o => Lib.cell?_alloc_some _ y1
      have x4a : ∀ o, (W6.alloc o).cell? ⟨X, 4, none⟩ = some (.bool fl) := fun o => Lib.cell?_alloc_some _ x4
      clear hQ6
      go_upto_region 14 with fail
      rw [← hW6]
      clear hW6 s2 f2
      go_upto_region 15 with fail
      have x5a : ∀ o, (W6.alloc o).cell? ⟨X, 5, none⟩ = some (.bool ci) := fun o => Lib.cell?_alloc_some _ x5
      have x6a : ∀ o, (W6.alloc o).cell? ⟨X, 6, none⟩ = some (.int .i64 cv) := fun o => Lib.cell?_alloc_some _ x6
      go_upto_if 132 with fail
      go_cut [] (fun wx => Hid (M3 n0 F W0 wx B S P X Q W6.heap.size ao1 p c1 pre us last nb (k1, k2) (iy : Int)))
      case first =>
        cases fl with
        | false =>
          have HBl : Hid (Below W6.heap.size W6 (W6.alloc (.cells #[.int .i64 (last + 1), .int .i64 k1, .int .i64 k2, .int .i64 nb, .int .i64 (iy : Int), .bool false, .bool false, .int .i64 0] 50))) := (Below.refl _ _).alloc (Nat.le_refl _) _
          have HLb : Hid ((W6.alloc (.cells #[.int .i64 (last + 1), .int .i64 k1, .int .i64 k2, .int .i64 nb, .int .i64 (iy : Int), .bool false, .bool false, .int .i64 0] 50)).heap[W6.heap.size]? = some (.cells (ldc (xV b last (k1, k2) nb (iy : Int))).toArray 50 (0, 0))) := heap_alloc_new _ _ rfl
          go_wp2
          go_meet
          exact ⟨_, HW6.out.box HBl.out (Nat.le_refl _) (by simp), HLb.out, HK6b.out.trans (Kp.ofBelow HBl.out), rfl, rfl, rfl, rfl⟩
        | true =>
          cases ci with
          | false =>
            have HBl : Hid (Below W6.heap.size W6 (W6.alloc (.cells #[.int .i64 (last + 1), .int .i64 k1, .int .i64 k2, .int .i64 nb, .int .i64 (iy : Int), .bool true, .bool false, .int .i64 0] 50))) := (Below.refl _ _).alloc (Nat.le_refl _) _
            have HW7 : Hid (WS n0 (fun k => ((F k ∨ k = X) ∨ k = Q) ∨ k = W6.heap.size) (W6.alloc (.cells #[.int .i64 (last + 1), .int .i64 k1, .int .i64 k2, .int .i64 nb, .int .i64 (iy : Int), .bool true, .bool false, .int .i64 0] 50)) B S P (.slice ao1 p c1) (pre ++ us ++ [xV b last (k1, k2) nb (iy : Int)]) us (last + 1) (last + 1) nb) := HW6.out.box HBl.out (Nat.le_refl _) (by simp)
            have HLb : Hid ((W6.alloc (.cells #[.int .i64 (last + 1), .int .i64 k1, .int .i64 k2, .int .i64 nb, .int .i64 (iy : Int), .bool true, .bool false, .int .i64 0] 50)).heap[W6.heap.size]? = some (.cells (ldc (fillV (xV b last (k1, k2) nb (iy : Int)) false cv)).toArray 50 (0, 0))) := heap_alloc_new _ _ rfl
            have HK7 : Hid (Kp n0 (fun k => F k ∨ k = X) W0 (W6.alloc (.cells #[.int .i64 (last + 1), .int .i64 k1, .int .i64 k2, .int .i64 nb, .int .i64 (iy : Int), .bool true, .bool false, .int .i64 0] 50))) := HK6b.out.trans (Kp.ofBelow HBl.out)
            go_upto_region 19 with fail
            generalize W6.alloc (.cells #[.int .i64 (last + 1), .int .i64 k1, .int .i64 k2, .int .i64 nb, .int .i64 (iy : Int), .bool true, .bool false, .int .i64 0] 50) = W7 at *
            have HFc : Hid (∀ W vs', WS n0 (fun k => ((F k ∨ k = X) ∨ k = Q) ∨ k = W6.heap.size) W B S P (.slice ao1 p c1) vs' us (last + 1) (last + 1) nb → Kp n0 (fun k => ((F k ∨ k = X) ∨ k = Q) ∨ k = W6.heap.size) W7 W → W.cell? ⟨B, 0, none⟩ = some (ptr S) ∧ W.cell? ⟨X, 5, none⟩ = some (.bool false) ∧ W.cell? ⟨X, 6, none⟩ = some (.int .i64 cv)) := fun W vs' h1 h2 => by
              have h4 := HXc.out W (HK7.out.trans (h2.mono (fun k _ hF => .inl (.inl hF))))
              exact ⟨h1.cells.1, h4.2.2.1, h4.2.2.2.1⟩
            have HFl : Hid (Calls Try.prog 22 #[ptr S, .int .i64 (last + 1), .agg #[.bool false, .int .i64 cv]] W7.drew fun e w' => e = .returned (.int .i64 0) ∧ WS n0 (fun k => ((F k ∨ k = X) ∨ k = Q) ∨ k = W6.heap.size) w' B S P (.slice ao1 p c1) (pre ++ us ++ [fillV (xV b last (k1, k2) nb (iy : Int)) false cv]) us (last + 1) (last + 1) nb ∧ Kp n0 (fun k => ((F k ∨ k = X) ∨ k = Q) ∨ k = W6.heap.size) W7 w') := by
              have h0 := HW7.out.kept (drew_below W7 1)
              have hfv := fv_of h0.st.nd (e := xV b last (k1, k2) nb (iy : Int)) (by simp)
              have hne : ∀ u ∈ pre ++ us, u.n ≠ last + 1 := fun u hu e => by
                have h1 := h0.st.nn
                have h2 := (List.pairwise_append.1 h1).2.2 u hu _ (List.mem_singleton.2 rfl)
                simp only at h2
                omega
              have hmp := map_upd_last (n := last + 1) (ci := false) (cv := cv) (A := pre ++ us) (v := xV b last (k1, k2) nb (iy : Int)) hne rfl
              have hc := h0.fill (last + 1) false cv (by unfold In64; omega) HPre.out.2.1.cv hfv rfl
              rw [hmp] at hc
              exact hc.mono fun e w' ⟨a1, a2, a3⟩ => ⟨a1, a2, (Kp.ofBelow (drew_below W7 1)).trans a3⟩
            obtain ⟨s0, x5', x6'⟩ := HFc.out W7 _ HW7.out (Kp.refl _ _ _)
            go_region_held3 (fun w' => w'.cell? ⟨B, 0, none⟩ = some (ptr S) ∧ w'.cell? ⟨X, 5, none⟩ = some (.bool false) ∧ w'.cell? ⟨X, 6, none⟩ = some (.int .i64 cv)) (first | with_reducible exact HQ8.out | go_keep) (first | (go_at_call 22; refine HFl.out.mono ?_; rintro e w8 ⟨rfl, hw8, hk8⟩; have HQ8 := hidC (HFc.out _ _ hw8 hk8); have HW8 := hidC hw8; have HK8 := hidC hk8; clear hw8 hk8))
            go_wp2
            go_meet
            exact ⟨_, HW8.out, HK8.out.heap (.inr rfl) HLb.out, HK7.out.trans (HK8.out.mono (fun k _ hF => .inl (.inl hF))), rfl, rfl, rfl, rfl⟩
          | true =>
            have HBl : Hid (Below W6.heap.size W6 (W6.alloc (.cells #[.int .i64 (last + 1), .int .i64 k1, .int .i64 k2, .int .i64 nb, .int .i64 (iy : Int), .bool true, .bool true, .int .i64 cv] 50))) := (Below.refl _ _).alloc (Nat.le_refl _) _
            have HW7 : Hid (WS n0 (fun k => ((F k ∨ k = X) ∨ k = Q) ∨ k = W6.heap.size) (W6.alloc (.cells #[.int .i64 (last + 1), .int .i64 k1, .int .i64 k2, .int .i64 nb, .int .i64 (iy : Int), .bool true, .bool true, .int .i64 cv] 50)) B S P (.slice ao1 p c1) (pre ++ us ++ [xV b last (k1, k2) nb (iy : Int)]) us (last + 1) (last + 1) nb) := HW6.out.box HBl.out (Nat.le_refl _) (by simp)
            have HLb : Hid ((W6.alloc (.cells #[.int .i64 (last + 1), .int .i64 k1, .int .i64 k2, .int .i64 nb, .int .i64 (iy : Int), .bool true, .bool true, .int .i64 cv] 50)).heap[W6.heap.size]? = some (.cells (ldc (fillV (xV b last (k1, k2) nb (iy : Int)) true cv)).toArray 50 (0, 0))) := heap_alloc_new _ _ rfl
            have HK7 : Hid (Kp n0 (fun k => F k ∨ k = X) W0 (W6.alloc (.cells #[.int .i64 (last + 1), .int .i64 k1, .int .i64 k2, .int .i64 nb, .int .i64 (iy : Int), .bool true, .bool true, .int .i64 cv] 50))) := HK6b.out.trans (Kp.ofBelow HBl.out)
            go_upto_region 19 with fail
            generalize W6.alloc (.cells #[.int .i64 (last + 1), .int .i64 k1, .int .i64 k2, .int .i64 nb, .int .i64 (iy : Int), .bool true, .bool true, .int .i64 cv] 50) = W7 at *
            have HFc : Hid (∀ W vs', WS n0 (fun k => ((F k ∨ k = X) ∨ k = Q) ∨ k = W6.heap.size) W B S P (.slice ao1 p c1) vs' us (last + 1) (last + 1) nb → Kp n0 (fun k => ((F k ∨ k = X) ∨ k = Q) ∨ k = W6.heap.size) W7 W → W.cell? ⟨B, 0, none⟩ = some (ptr S) ∧ W.cell? ⟨X, 5, none⟩ = some (.bool true) ∧ W.cell? ⟨X, 6, none⟩ = some (.int .i64 cv)) := fun W vs' h1 h2 => by
              have h4 := HXc.out W (HK7.out.trans (h2.mono (fun k _ hF => .inl (.inl hF))))
              exact ⟨h1.cells.1, h4.2.2.1, h4.2.2.2.1⟩
            have HFl : Hid (Calls Try.prog 22 #[ptr S, .int .i64 (last + 1), .agg #[.bool true, .int .i64 cv]] W7.drew fun e w' => e = .returned (.int .i64 0) ∧ WS n0 (fun k => ((F k ∨ k = X) ∨ k = Q) ∨ k = W6.heap.size) w' B S P (.slice ao1 p c1) (pre ++ us ++ [fillV (xV b last (k1, k2) nb (iy : Int)) true cv]) us (last + 1) (last + 1) nb ∧ Kp n0 (fun k => ((F k ∨ k = X) ∨ k = Q) ∨ k = W6.heap.size) W7 w') := by
              have h0 := HW7.out.kept (drew_below W7 1)
              have hfv := fv_of h0.st.nd (e := xV b last (k1, k2) nb (iy : Int)) (by simp)
              have hne : ∀ u ∈ pre ++ us, u.n ≠ last + 1 := fun u hu e => by
                have h1 := h0.st.nn
                have h2 := (List.pairwise_append.1 h1).2.2 u hu _ (List.mem_singleton.2 rfl)
                simp only at h2
                omega
              have hmp := map_upd_last (n := last + 1) (ci := true) (cv := cv) (A := pre ++ us) (v := xV b last (k1, k2) nb (iy : Int)) hne rfl
              have hc := h0.fill (last + 1) true cv (by unfold In64; omega) HPre.out.2.1.cv hfv rfl
              rw [hmp] at hc
              exact hc.mono fun e w' ⟨a1, a2, a3⟩ => ⟨a1, a2, (Kp.ofBelow (drew_below W7 1)).trans a3⟩
            obtain ⟨s0, x5', x6'⟩ := HFc.out W7 _ HW7.out (Kp.refl _ _ _)
            go_region_held3 (fun w' => w'.cell? ⟨B, 0, none⟩ = some (ptr S) ∧ w'.cell? ⟨X, 5, none⟩ = some (.bool true) ∧ w'.cell? ⟨X, 6, none⟩ = some (.int .i64 cv)) (first | with_reducible exact HQ8.out | go_keep) (first | (go_at_call 22; refine HFl.out.mono ?_; rintro e w8 ⟨rfl, hw8, hk8⟩; have HQ8 := hidC (HFc.out _ _ hw8 hk8); have HW8 := hidC hw8; have HK8 := hidC hk8; clear hw8 hk8))
            go_wp2
            go_meet
            exact ⟨_, HW8.out, HK8.out.heap (.inr rfl) HLb.out, HK7.out.trans (HK8.out.mono (fun k _ hF => .inl (.inl hF))), rfl, rfl, rfl, rfl⟩
      case rest =>
      obtain ⟨v, hw8, hlb, hk8, hvn, hvk, hvb, hvi⟩ := hcut
      have HW8 := hidC hw8
      have HL8 := hidC hlb
      have HK8 := hidC hk8
      have HV : Hid (v.n = last + 1 ∧ v.k = (k1, k2) ∧ v.ba = nb ∧ v.ix = (iy : Int)) := ⟨hvn, hvk, hvb, hvi⟩
      clear hw8 hlb hk8 hvn hvk hvb hvi x0 x1 x4 x5 x6 y0 y1 x0a x1a y0a y1a x4a x5a x6a HW6 HK6 HK6b HW5 HK5 HPb
      generalize W6.heap.size = LB at *
      obtain ⟨c0, c1', c2, c3, c4, c5, c6, c7⟩ : (wc.cell? ⟨LB, 0, none⟩ = some (.int .i64 v.n) ∧ wc.cell? ⟨LB, 1, none⟩ = some (.int .i64 v.k.1) ∧ wc.cell? ⟨LB, 2, none⟩ = some (.int .i64 v.k.2) ∧ wc.cell? ⟨LB, 3, none⟩ = some (.int .i64 v.ba) ∧ wc.cell? ⟨LB, 4, none⟩ = some (.int .i64 v.ix) ∧ wc.cell? ⟨LB, 5, none⟩ = some (.bool v.fl) ∧ wc.cell? ⟨LB, 6, none⟩ = some (.bool v.ci) ∧ wc.cell? ⟨LB, 7, none⟩ = some (.int .i64 v.cv)) := by
        refine ⟨?_, ?_, ?_, ?_, ?_, ?_, ?_, ?_⟩ <;> (rw [World.cell?, HL8.out]; rfl)
      obtain ⟨_, s1, _⟩ := HW8.out.cells
      have s1a : ∀ o, (wc.alloc o).cell? ⟨B, 1, none⟩ = some (.slice ao1 p c1) := fun o => Lib.cell?_alloc_some _ s1
      have s1b : ∀ o, (wc.drew.alloc o).cell? ⟨B, 1, none⟩ = some (.slice ao1 p c1) := fun o => Lib.cell?_alloc_some (W := wc.drew) _ s1
      have HPs : Hid (∀ ty, ∃ v' w', (Builtin.append_ #[34, 34] ty #[.slice ao1 p c1, .slice (some ⟨wc.heap.size, 0, none⟩) 1 1]).run Try.prog (wc.alloc (.cells #[.int .i64 v.n, .int .i64 v.k.1, .int .i64 v.k.2, .int .i64 v.ba, .int .i64 v.ix, .bool v.fl, .bool v.ci, .int .i64 v.cv] 50)).drew = .ok v' w' ∧ M4 n0 F W0 B S P X ao1 p c1 pre us last nb v v' w') := fun ty => by
        have hb : Below wc.heap.size wc (wc.alloc (.cells #[.int .i64 v.n, .int .i64 v.k.1, .int .i64 v.k.2, .int .i64 v.ba, .int .i64 v.ix, .bool v.fl, .bool v.ci, .int .i64 v.cv] 50)).drew := by
          have h1 := (Below.refl wc.heap.size wc).alloc (Nat.le_refl _) (.cells #[.int .i64 v.n, .int .i64 v.k.1, .int .i64 v.k.2, .int .i64 v.ba, .int .i64 v.ix, .bool v.fl, .bool v.ci, .int .i64 v.cv] 50)
          exact ⟨h1.os, h1.tape, h1.output, h1.size, h1.block⟩
        obtain ⟨v', w', h1, h2, h3, h4, h5, h6⟩ := HW8.out.push v (by rw [← HP.out]; omega) hb (A := wc.heap.size) (heap_alloc_new _ _ rfl) ty
        rw [← HP.out] at h2
        refine ⟨v', w', h1, h2, h3, h4, ?_, HK8.out.trans (h6.mono (fun k _ hF => .inl (.inl hF)))⟩
        have h7 := h5.unbox (G := F) (fun k hF => .inl (.inl (.inl hF)))
        rw [List.append_assoc] at h7
        exact h7
      have HPs2 : Hid (∀ ty, ∃ v' w', (Builtin.append_ #[34, 34] ty #[.slice ao1 p c1, .slice (some ⟨wc.heap.size, 0, none⟩) 1 1]).run Try.prog (wc.drew.alloc (.cells #[.int .i64 v.n, .int .i64 v.k.1, .int .i64 v.k.2, .int .i64 v.ba, .int .i64 v.ix, .bool v.fl, .bool v.ci, .int .i64 v.cv] 50)) = .ok v' w' ∧ M4 n0 F W0 B S P X ao1 p c1 pre us last nb v v' w') := HPs.out
      have HFin : Hid (∀ v' w', WS n0 F w' B S P v' (pre ++ (us ++ [v])) (us ++ [v]) (last + 1) (last + 1) nb → Kp n0 (fun j => F j ∨ j = X) W0 w' → WrPost n0 F w B S P pre ws last batch ⟨(k1, k2), la, ix, fl, ci, cv, dr⟩ (.returned (.bool true)) w') := fun v' w' h1 h2 => by
        rw [HUs.out] at h1
        exact ⟨rfl, (Kp.ofBelow HB0.out).trans (h2.mono (fun k _ hF => .inl hF)), v', .inr ⟨v, nb, h1, HV.out.1, HV.out.2.1, HV.out.2.2.1, HNb.out, by rw [HV.out.2.2.2]; omega, HKey.out⟩⟩
      clear HV
      generalize v.n = d0 at *
      generalize v.k.1 = d1 at *
      generalize v.k.2 = d2 at *
      generalize v.ba = d3 at *
      generalize v.ix = d4 at *
      generalize v.fl = d5 at *
      generalize v.ci = d6 at *
      generalize v.cv = d7 at *
      go_upto_region 21 with fail
      go_region_law (first
        | (refine step_app (post := fun v' w' => M4 n0 F W0 B S P X ao1 p c1 pre us last nb v v' w') rfl _ _ 34 rfl (.slice ao1 p c1) (.slice (some ⟨wc.heap.size, 0, none⟩) 1 1) (by simp [Act.eval]) (by simp [Act.eval]) ?_ ?_; (first | with_reducible exact HPs.out | with_reducible exact HPs2.out); rintro v9 w9 hm9; obtain ⟨⟨a9, e9, hv9⟩, q1, q2, hws, hkp⟩ := hm9; subst hv9; have HW9 := hidC hws; have HK9 := hidC hkp; clear hws hkp))
      all_goals (go_wp2; go_ret; exact HFin.out _ _ HW9.out HK9.out)
end Go.Proofs.Ytfkijdlggdgfhaa
