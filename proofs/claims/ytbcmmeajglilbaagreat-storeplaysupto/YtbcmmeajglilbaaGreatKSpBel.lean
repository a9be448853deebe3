import Derived.Test.YtbcmmeajglilbaaGreatKSpMath
import Derived.Test.YtbcmmeajglilbaaGreatKKMath
import Derived.Test.YtbcmmeajglilbaaGreatKBytes
/-
  StorePlays: THE DOCUMENT'S below, Visible.
-/
namespace Go.Proofs.YtbcmmeajglilbaaGreat
open Go.RowKit Go.Sort

/-- is it a version of the key, ahead of a place? -/
def belF (k : K) (lb li : Int) (v : Vr) : Bool := decide (v.k = k) && latB lb li v.ba v.ix
/-- is it a version of the key, not above a batch? -/
def visF (k : K) (b : Int) (v : Vr) : Bool := decide (v.k = k) && decide (v.ba ≤ b)
theorem lastI_step (f : Vr → Bool) (vs : List Vr) (i : Nat) : lastI f vs (i + 1) = if f vs[i]! then (i : Int) else lastI f vs i := rfl
theorem lat_of {a b : Vr} (h : later a b) : latB a.ba a.ix b.ba b.ix = true := decide_eq_true h
set_option maxRecDepth 100000 in
set_option maxHeartbeats 8000000 in
theorem rbelow_any (w : World) (base R P : Nat) (cap last : Int) (av : Value) (vs : List Vr) (h : RDs w base R P cap last av vs) (hl : vs.length ≤ 65536) (hp : PLk vs) (k1 k2 lb li cv : Int) (fl ci : Bool) :
    Calls Tryz.prog 48 #[ptr R, .agg #[.int .i64 k1, .int .i64 k2], .agg #[.int .i64 lb, .int .i64 li, .bool fl, .bool ci, .int .i64 cv]] w fun e w' => GrI w (lastI (belF (k1, k2) lb li) vs vs.length) e w' := by
  have mx := mixed
  obtain ⟨ao, ac, rfl⟩ := h.sl
  obtain ⟨W0, hW0⟩ : ∃ W0, W0 = (w.alloc (.cells #[.int .i64 k1, .int .i64 k2] 41)).alloc (.cells #[.int .i64 lb, .int .i64 li, .bool fl, .bool ci, .int .i64 cv] 71) := ⟨_, rfl⟩
  obtain ⟨B4, hB4⟩ : ∃ g, g = w.heap.size := ⟨_, rfl⟩
  have HG0 : Hid (Grew w W0) := by rw [hW0]; exact ((Grew.refl w).alloc _).alloc _
  have b4 : W0.heap[B4]? = some (.cells #[.int .i64 k1, .int .i64 k2] 41 (0, 0)) := by
    rw [hW0, hB4]; rw [heap_alloc_old _ _ (by simp)]; exact heap_alloc_new _ _ rfl
  have b5 : W0.heap[B4 + 1]? = some (.cells #[.int .i64 lb, .int .i64 li, .bool fl, .bool ci, .int .i64 cv] 71 (0, 0)) := by
    rw [hW0]; exact heap_alloc_new _ _ (by simp [hB4])
  have HL5 : Hid (W0.cell? ⟨B4 + 1, 0, none⟩ = some (.int .i64 lb) ∧ W0.cell? ⟨B4 + 1, 1, none⟩ = some (.int .i64 li) ∧ W0.cell? ⟨B4 + 1, 2, none⟩ = some (.bool fl) ∧ W0.cell? ⟨B4 + 1, 3, none⟩ = some (.bool ci) ∧ W0.cell? ⟨B4 + 1, 4, none⟩ = some (.int .i64 cv)) := by refine ⟨?_, ?_, ?_, ?_, ?_⟩ <;> simp [World.cell?, b5]
  have HK0 : Hid (W0.cell? ⟨B4, 0, none⟩ = some (.int .i64 k1) ∧ W0.cell? ⟨B4, 1, none⟩ = some (.int .i64 k2)) := by constructor <;> simp [World.cell?, b4]
  have HR := hidS (h.kept HG0.out.below)
  have HP := hidS hp
  obtain ⟨an, han⟩ : ∃ an, an = vs.length := ⟨_, rfl⟩
  have HL := hidS han
  have hl2 : an ≤ 65536 := by omega
  have HCm : Hid (∀ (w : World) (p q r s a5 b5 : Int) (a3 a4 b3 b4 : Bool), Calls Tryz.prog 50 #[.agg #[.int .i64 p, .int .i64 q, .bool a3, .bool a4, .int .i64 a5], .agg #[.int .i64 r, .int .i64 s, .bool b3, .bool b4, .int .i64 b5]] w fun e w' => e = .returned (.bool (latB p q r s)) ∧ ∃ q os, w' = grow (w.drewN q) os) := fun w p q r s a5 b5 a3 a4 b3 b4 => rlater_any w p q r s a5 b5 a3 a4 b3 b4
  rw [← han]
  clear h hl hp b4 b5
  rw [← han] at HR
  clear han
  go_enter Tryz.func48, Tryz.ntmps48
  go_wp2_with fail
  rw [← hW0, ← hB4]
  clear hW0 hB4
  go_loopw [7, 8] (fun x y wr => ∃ (i : Nat) (z : Int), i ≤ an ∧ x = .int .i64 z ∧ y = .int .i64 (i : Int) ∧ Hid (Grew W0 wr) ∧ Hid (z = lastI (belF (k1, k2) lb li) vs i)) (fun _ y _ => an - (intOf y).toNat)
  case atStart => exact ⟨0, -1, Nat.zero_le _, rfl, rfl, Grew.refl _, rfl⟩
  case round =>
    obtain ⟨i, z, hi, rfl, rfl, HG, HZ⟩ := hrel
    have HRw := hidS (HR.out.kept HG.out.below)
    have r2 := HRw.out.cells.2.2.1
    by_cases hlt : i < an
    · have hil : i < vs.length := by have := HL.out; omega
      have hS := lastI_step (belF (k1, k2) lb li) vs i
      have hM : ∀ j, j < i → vs[j]!.k = vs[i]!.k → latB vs[i]!.ba vs[i]!.ix vs[j]!.ba vs[j]!.ix = true := fun j hj he => lat_of (HP.out.lt hj hil he)
      have hVk : vs[i]!.k = (vs[i]!.k.1, vs[i]!.k.2) := rfl
      have hB : (belF (k1, k2) lb li) vs[i]! = (decide ((vs[i]!.k.1, vs[i]!.k.2) = (k1, k2)) && latB lb li vs[i]!.ba vs[i]!.ix) := rfl
      rw [hB] at hS
      rw [hVk] at hM
      clear hB hVk
      obtain ⟨g, c, e1, c0, c1, c2, c3, c4, c5, c6, c7⟩ := HRw.out.ent hil
      simp only [Value.slice.injEq] at e1
      obtain ⟨rfl, _, rfl⟩ := e1
      generalize vs[i]!.n = x0 at *
      generalize vs[i]!.k.1 = x1 at *
      generalize vs[i]!.k.2 = x2 at *
      generalize vs[i]!.ba = x3 at *
      generalize vs[i]!.ix = x4 at *
      generalize vs[i]!.fl = x5 at *
      generalize vs[i]!.ci = x6 at *
      generalize vs[i]!.cv = x7 at *
      have HS := hidS hS
      have HM := hidS hM
      have HA : Hid (Grew wr (wr.alloc (.cells #[.int .i64 x0, .int .i64 x1, .int .i64 x2, .int .i64 x3, .int .i64 x4, .bool x5, .bool x6, .int .i64 x7] 112)) ∧ (wr.alloc (.cells #[.int .i64 x0, .int .i64 x1, .int .i64 x2, .int .i64 x3, .int .i64 x4, .bool x5, .bool x6, .int .i64 x7] 112)).heap[wr.heap.size]? = some (.cells #[.int .i64 x0, .int .i64 x1, .int .i64 x2, .int .i64 x3, .int .i64 x4, .bool x5, .bool x6, .int .i64 x7] 112 (0, 0))) := ⟨(Grew.refl wr).alloc _, heap_alloc_new _ _ rfl⟩
      clear hS hM
      have hgd := fun op x y => run_eqGuard op x y x1 x2 k1 k2
      have hq := run_eqKey x1 x2 k1 k2
      by_cases hk : (x1, x2) = (k1, k2)
      · rw [decide_eq_true hk] at hq
        have HKe := hidS hk
        clear hk
        cases hlc : latB lb li x3 x4 with
        | false =>
          have HX : Hid (z = lastI (belF (k1, k2) lb li) vs (i + 1)) := by show _ = _; rw [HS.out, hlc, Bool.and_false]; exact HZ.out
          clear HS HZ HM HKe
          go_wp2_with fail
          generalize wr.alloc (.cells #[.int .i64 x0, .int .i64 x1, .int .i64 x2, .int .i64 x3, .int .i64 x4, .bool x5, .bool x6, .int .i64 x7] 112) = W1 at *
          generalize wr.heap.size = B9 at *
          have up : ∀ {p : Addr} {v : Value}, wr.cell? p = some v → ∀ n os, (grow (W1.drewN n) os).cell? p = some v := fun hc n os => Grew.cell (HA.out.1.trans ⟨n, os, rfl⟩) hc
          have ub : ∀ {p : Addr} {v : Value}, W1.cell? p = some v → ∀ n os, (grow (W1.drewN n) os).cell? p = some v := fun hc n os => Grew.cell ⟨n, os, rfl⟩ hc
          have q1 := ub (p := ⟨B9, 1, none⟩) (v := .int .i64 x1) (by simp [World.cell?, HA.out.2])
          have q2 := ub (p := ⟨B9, 2, none⟩) (v := .int .i64 x2) (by simp [World.cell?, HA.out.2])
          have q3 := ub (p := ⟨B9, 3, none⟩) (v := .int .i64 x3) (by simp [World.cell?, HA.out.2])
          have q4 := ub (p := ⟨B9, 4, none⟩) (v := .int .i64 x4) (by simp [World.cell?, HA.out.2])
          have q5 := ub (p := ⟨B9, 5, none⟩) (v := .bool x5) (by simp [World.cell?, HA.out.2])
          have q6 := ub (p := ⟨B9, 6, none⟩) (v := .bool x6) (by simp [World.cell?, HA.out.2])
          have q7 := ub (p := ⟨B9, 7, none⟩) (v := .int .i64 x7) (by simp [World.cell?, HA.out.2])
          have p0 := up (HG.out.cell HK0.out.1)
          have p1 := up (HG.out.cell HK0.out.2)
          have l0 := up (HG.out.cell HL5.out.1)
          have l1 := up (HG.out.cell HL5.out.2.1)
          have l2 := up (HG.out.cell HL5.out.2.2.1)
          have l3 := up (HG.out.cell HL5.out.2.2.2.1)
          have l4 := up (HG.out.cell HL5.out.2.2.2.2)
          have rr := up HRw.out.cells.2.2.1
          have HG1 : Hid (Grew W0 W1) := HG.out.trans HA.out.1
          clear up ub
          refine wp_region_quiet_grown mx (by kernel_rfl) ?_
          repeat (go_big_quiet_step ((go_at_call 50; exact Calls.grown_of (HCm.out _ _ _ _ _ _ _ _ _ _ _))))
          refine wpQuiet_nil ?_
          intro _ hw'
          obtain ⟨⟨nq, osq⟩, hw''⟩ := hw'
          subst hw''
          have HG2 : Hid (Grew W0 (grow (W1.drewN nq) osq)) := HG1.out.trans ⟨_, _, rfl⟩
          generalize grow (W1.drewN nq) osq = W2 at *
          clear q1 q2 q3 q4 q5 q6 q7 p0 p1 l0 l1 l2 l3 l4 rr 
          go_wp2_with fail
          go_roundw
          case rel => exact ⟨i + 1, z, by omega, by first | rfl | go_num, by go_num, HG2, HX⟩
          case measure => simp [intOf]; omega
        | true =>
          have HX : Hid ((i : Int) = lastI (belF (k1, k2) lb li) vs (i + 1)) := by show _ = _; rw [HS.out, hlc, decide_eq_true HKe.out]; rfl
          by_cases hz : z < 0
          · have hzb : decide (z < 0) = true := by simpa using hz
            clear HS HZ HM HKe hz
            go_wp2_with fail
            generalize wr.alloc (.cells #[.int .i64 x0, .int .i64 x1, .int .i64 x2, .int .i64 x3, .int .i64 x4, .bool x5, .bool x6, .int .i64 x7] 112) = W1 at *
            generalize wr.heap.size = B9 at *
            have up : ∀ {p : Addr} {v : Value}, wr.cell? p = some v → ∀ n os, (grow (W1.drewN n) os).cell? p = some v := fun hc n os => Grew.cell (HA.out.1.trans ⟨n, os, rfl⟩) hc
            have ub : ∀ {p : Addr} {v : Value}, W1.cell? p = some v → ∀ n os, (grow (W1.drewN n) os).cell? p = some v := fun hc n os => Grew.cell ⟨n, os, rfl⟩ hc
            have q1 := ub (p := ⟨B9, 1, none⟩) (v := .int .i64 x1) (by simp [World.cell?, HA.out.2])
            have q2 := ub (p := ⟨B9, 2, none⟩) (v := .int .i64 x2) (by simp [World.cell?, HA.out.2])
            have q3 := ub (p := ⟨B9, 3, none⟩) (v := .int .i64 x3) (by simp [World.cell?, HA.out.2])
            have q4 := ub (p := ⟨B9, 4, none⟩) (v := .int .i64 x4) (by simp [World.cell?, HA.out.2])
            have q5 := ub (p := ⟨B9, 5, none⟩) (v := .bool x5) (by simp [World.cell?, HA.out.2])
            have q6 := ub (p := ⟨B9, 6, none⟩) (v := .bool x6) (by simp [World.cell?, HA.out.2])
            have q7 := ub (p := ⟨B9, 7, none⟩) (v := .int .i64 x7) (by simp [World.cell?, HA.out.2])
            have p0 := up (HG.out.cell HK0.out.1)
            have p1 := up (HG.out.cell HK0.out.2)
            have l0 := up (HG.out.cell HL5.out.1)
            have l1 := up (HG.out.cell HL5.out.2.1)
            have l2 := up (HG.out.cell HL5.out.2.2.1)
            have l3 := up (HG.out.cell HL5.out.2.2.2.1)
            have l4 := up (HG.out.cell HL5.out.2.2.2.2)
            have rr := up HRw.out.cells.2.2.1
            have HG1 : Hid (Grew W0 W1) := HG.out.trans HA.out.1
            clear up ub
            refine wp_region_quiet_grown mx (by kernel_rfl) ?_
            repeat (go_big_quiet_step ((go_at_call 50; exact Calls.grown_of (HCm.out _ _ _ _ _ _ _ _ _ _ _))))
            refine wpQuiet_nil ?_
            intro _ hw'
            obtain ⟨⟨nq, osq⟩, hw''⟩ := hw'
            subst hw''
            have HG2 : Hid (Grew W0 (grow (W1.drewN nq) osq)) := HG1.out.trans ⟨_, _, rfl⟩
            generalize grow (W1.drewN nq) osq = W2 at *
            clear q1 q2 q3 q4 q5 q6 q7 p0 p1 l0 l1 l2 l3 l4 rr 
            go_wp2_with fail
            go_roundw
            case rel => exact ⟨i + 1, (i : Int), by omega, by first | rfl | go_num, by go_num, HG2, HX⟩
            case measure => simp [intOf]; omega
          · obtain ⟨j, rfl⟩ : ∃ j : Nat, z = (j : Int) := ⟨z.toNat, by omega⟩
            have hji : j < i := by have h1 := (lastI_lt (belF (k1, k2) lb li) vs i).2; rw [← HZ.out] at h1; omega
            have hjl : j < vs.length := by omega
            have hjk : vs[j]!.k = (x1, x2) := by
              have h1 := lastI_hit (belF (k1, k2) lb li) vs i j HZ.out.symm
              have h2 : decide (vs[j]!.k = (k1, k2)) = true := (Bool.and_eq_true _ _ ▸ h1).1
              rw [HKe.out]
              exact of_decide_eq_true h2
            have hlb := HM.out j hji hjk
            obtain ⟨g', c', e1, _, _, _, d3, d4, d5, d6, d7⟩ := HRw.out.ent hjl
            simp only [Value.slice.injEq, Option.some.injEq, Addr.mk.injEq, and_true] at e1
            obtain ⟨rfl, _⟩ := e1
            generalize vs[j]!.ba = y3 at *
            generalize vs[j]!.ix = y4 at *
            generalize vs[j]!.fl = y5 at *
            generalize vs[j]!.ci = y6 at *
            generalize vs[j]!.cv = y7 at *
            have hzb : decide ((j : Int) < 0) = false := by simp
            have hja : j < an := by omega
            clear HS HZ HM HKe hz hjk hjl
            go_wp2_with fail
            generalize wr.alloc (.cells #[.int .i64 x0, .int .i64 x1, .int .i64 x2, .int .i64 x3, .int .i64 x4, .bool x5, .bool x6, .int .i64 x7] 112) = W1 at *
            generalize wr.heap.size = B9 at *
            have up : ∀ {p : Addr} {v : Value}, wr.cell? p = some v → ∀ n os, (grow (W1.drewN n) os).cell? p = some v := fun hc n os => Grew.cell (HA.out.1.trans ⟨n, os, rfl⟩) hc
            have ub : ∀ {p : Addr} {v : Value}, W1.cell? p = some v → ∀ n os, (grow (W1.drewN n) os).cell? p = some v := fun hc n os => Grew.cell ⟨n, os, rfl⟩ hc
            have q1 := ub (p := ⟨B9, 1, none⟩) (v := .int .i64 x1) (by simp [World.cell?, HA.out.2])
            have q2 := ub (p := ⟨B9, 2, none⟩) (v := .int .i64 x2) (by simp [World.cell?, HA.out.2])
            have q3 := ub (p := ⟨B9, 3, none⟩) (v := .int .i64 x3) (by simp [World.cell?, HA.out.2])
            have q4 := ub (p := ⟨B9, 4, none⟩) (v := .int .i64 x4) (by simp [World.cell?, HA.out.2])
            have q5 := ub (p := ⟨B9, 5, none⟩) (v := .bool x5) (by simp [World.cell?, HA.out.2])
            have q6 := ub (p := ⟨B9, 6, none⟩) (v := .bool x6) (by simp [World.cell?, HA.out.2])
            have q7 := ub (p := ⟨B9, 7, none⟩) (v := .int .i64 x7) (by simp [World.cell?, HA.out.2])
            have p0 := up (HG.out.cell HK0.out.1)
            have p1 := up (HG.out.cell HK0.out.2)
            have l0 := up (HG.out.cell HL5.out.1)
            have l1 := up (HG.out.cell HL5.out.2.1)
            have l2 := up (HG.out.cell HL5.out.2.2.1)
            have l3 := up (HG.out.cell HL5.out.2.2.2.1)
            have l4 := up (HG.out.cell HL5.out.2.2.2.2)
            have rr := up HRw.out.cells.2.2.1
            have m3 := up d3
            have m4 := up d4
            have m5 := up d5
            have m6 := up d6
            have m7 := up d7
            have HG1 : Hid (Grew W0 W1) := HG.out.trans HA.out.1
            clear up ub
            refine wp_region_quiet_grown mx (by kernel_rfl) ?_
            repeat (go_big_quiet_step ((go_at_call 50; exact Calls.grown_of (HCm.out _ _ _ _ _ _ _ _ _ _ _))))
            refine wpQuiet_nil ?_
            intro _ hw'
            obtain ⟨⟨nq, osq⟩, hw''⟩ := hw'
            subst hw''
            have HG2 : Hid (Grew W0 (grow (W1.drewN nq) osq)) := HG1.out.trans ⟨_, _, rfl⟩
            generalize grow (W1.drewN nq) osq = W2 at *
            clear q1 q2 q3 q4 q5 q6 q7 p0 p1 l0 l1 l2 l3 l4 rr m3 m4 m5 m6 m7
            go_wp2_with fail
            go_roundw
            case rel => exact ⟨i + 1, (i : Int), by omega, by first | rfl | go_num, by go_num, HG2, HX⟩
            case measure => simp [intOf]; omega
      · rw [decide_eq_false hk] at hq
        have HX : Hid (z = lastI (belF (k1, k2) lb li) vs (i + 1)) := by show _ = _; rw [HS.out, decide_eq_false hk, Bool.false_and]; exact HZ.out
        clear HS HZ HM hk
        go_wp2_with fail
        generalize wr.alloc (.cells #[.int .i64 x0, .int .i64 x1, .int .i64 x2, .int .i64 x3, .int .i64 x4, .bool x5, .bool x6, .int .i64 x7] 112) = W1 at *
        generalize wr.heap.size = B9 at *
        have up : ∀ {p : Addr} {v : Value}, wr.cell? p = some v → ∀ n os, (grow (W1.drewN n) os).cell? p = some v := fun hc n os => Grew.cell (HA.out.1.trans ⟨n, os, rfl⟩) hc
        have ub : ∀ {p : Addr} {v : Value}, W1.cell? p = some v → ∀ n os, (grow (W1.drewN n) os).cell? p = some v := fun hc n os => Grew.cell ⟨n, os, rfl⟩ hc
        have q1 := ub (p := ⟨B9, 1, none⟩) (v := .int .i64 x1) (by simp [World.cell?, HA.out.2])
        have q2 := ub (p := ⟨B9, 2, none⟩) (v := .int .i64 x2) (by simp [World.cell?, HA.out.2])
        have q3 := ub (p := ⟨B9, 3, none⟩) (v := .int .i64 x3) (by simp [World.cell?, HA.out.2])
        have q4 := ub (p := ⟨B9, 4, none⟩) (v := .int .i64 x4) (by simp [World.cell?, HA.out.2])
        have q5 := ub (p := ⟨B9, 5, none⟩) (v := .bool x5) (by simp [World.cell?, HA.out.2])
        have q6 := ub (p := ⟨B9, 6, none⟩) (v := .bool x6) (by simp [World.cell?, HA.out.2])
        have q7 := ub (p := ⟨B9, 7, none⟩) (v := .int .i64 x7) (by simp [World.cell?, HA.out.2])
        have p0 := up (HG.out.cell HK0.out.1)
        have p1 := up (HG.out.cell HK0.out.2)
        have l0 := up (HG.out.cell HL5.out.1)
        have l1 := up (HG.out.cell HL5.out.2.1)
        have l2 := up (HG.out.cell HL5.out.2.2.1)
        have l3 := up (HG.out.cell HL5.out.2.2.2.1)
        have l4 := up (HG.out.cell HL5.out.2.2.2.2)
        have rr := up HRw.out.cells.2.2.1
        have HG1 : Hid (Grew W0 W1) := HG.out.trans HA.out.1
        clear up ub
        refine wp_region_quiet_grown mx (by kernel_rfl) ?_
        repeat (go_big_quiet_step ((go_at_call 50; exact Calls.grown_of (HCm.out _ _ _ _ _ _ _ _ _ _ _))))
        refine wpQuiet_nil ?_
        intro _ hw'
        obtain ⟨⟨nq, osq⟩, hw''⟩ := hw'
        subst hw''
        have HG2 : Hid (Grew W0 (grow (W1.drewN nq) osq)) := HG1.out.trans ⟨_, _, rfl⟩
        generalize grow (W1.drewN nq) osq = W2 at *
        clear q1 q2 q3 q4 q5 q6 q7 p0 p1 l0 l1 l2 l3 l4 rr 
        go_wp2_with fail
        go_roundw
        case rel => exact ⟨i + 1, z, by omega, by first | rfl | go_num, by go_num, HG2, HX⟩
        case measure => simp [intOf]; omega
    · have hie : i = an := by omega
      subst hie
      have HX : Hid (z = lastI (belF (k1, k2) lb li) vs i) := HZ
      have HG3 := hidS (HG0.out.trans HG.out)
      clear HZ
      go_wp2
      go_ret
      exact ⟨congrArg (fun y => Ending.returned (.int .i64 y)) HX.out, HG3.out⟩
set_option maxRecDepth 100000 in
set_option maxHeartbeats 8000000 in
theorem rvisible_any (w : World) (base R P : Nat) (cap last : Int) (av : Value) (vs : List Vr) (h : RDs w base R P cap last av vs) (hl : vs.length ≤ 65536) (hp : PLk vs) (k1 k2 b : Int) :
    Calls Tryz.prog 27 #[ptr R, .agg #[.int .i64 k1, .int .i64 k2], .int .i64 b] w fun e w' => GrI w (numI vs (lastI (visF (k1, k2) b) vs vs.length)) e w' := by
  have mx := mixed
  obtain ⟨ao, ac, rfl⟩ := h.sl
  obtain ⟨W0, hW0⟩ : ∃ W0, W0 = (w.alloc (.cells #[.int .i64 k1, .int .i64 k2] 41)) := ⟨_, rfl⟩
  obtain ⟨B4, hB4⟩ : ∃ g, g = w.heap.size := ⟨_, rfl⟩
  have HG0 : Hid (Grew w W0) := by rw [hW0]; exact (Grew.refl w).alloc _
  have b4 : W0.heap[B4]? = some (.cells #[.int .i64 k1, .int .i64 k2] 41 (0, 0)) := by
    rw [hW0, hB4]; exact heap_alloc_new _ _ rfl
  have HK0 : Hid (W0.cell? ⟨B4, 0, none⟩ = some (.int .i64 k1) ∧ W0.cell? ⟨B4, 1, none⟩ = some (.int .i64 k2)) := by constructor <;> simp [World.cell?, b4]
  have HR := hidS (h.kept HG0.out.below)
  have HP := hidS hp
  obtain ⟨an, han⟩ : ∃ an, an = vs.length := ⟨_, rfl⟩
  have HL := hidS han
  have hl2 : an ≤ 65536 := by omega
  have HCm : Hid (∀ (w : World) (p q r s a5 b5 : Int) (a3 a4 b3 b4 : Bool), Calls Tryz.prog 50 #[.agg #[.int .i64 p, .int .i64 q, .bool a3, .bool a4, .int .i64 a5], .agg #[.int .i64 r, .int .i64 s, .bool b3, .bool b4, .int .i64 b5]] w fun e w' => e = .returned (.bool (latB p q r s)) ∧ ∃ q os, w' = grow (w.drewN q) os) := fun w p q r s a5 b5 a3 a4 b3 b4 => rlater_any w p q r s a5 b5 a3 a4 b3 b4
  rw [← han]
  clear h hl hp b4
  rw [← han] at HR
  clear han
  go_enter Tryz.func27, Tryz.ntmps27
  go_wp2_with fail
  rw [← hW0, ← hB4]
  clear hW0 hB4
  go_loopw [7, 8] (fun x y wr => ∃ (i : Nat) (z : Int), i ≤ an ∧ x = .int .i64 z ∧ y = .int .i64 (i : Int) ∧ Hid (Grew W0 wr) ∧ Hid (z = lastI (visF (k1, k2) b) vs i)) (fun _ y _ => an - (intOf y).toNat)
  case atStart => exact ⟨0, -1, Nat.zero_le _, rfl, rfl, Grew.refl _, rfl⟩
  case round =>
    obtain ⟨i, z, hi, rfl, rfl, HG, HZ⟩ := hrel
    have HRw := hidS (HR.out.kept HG.out.below)
    have r2 := HRw.out.cells.2.2.1
    by_cases hlt : i < an
    · have hil : i < vs.length := by have := HL.out; omega
      have hS := lastI_step (visF (k1, k2) b) vs i
      have hM : ∀ j, j < i → vs[j]!.k = vs[i]!.k → latB vs[i]!.ba vs[i]!.ix vs[j]!.ba vs[j]!.ix = true := fun j hj he => lat_of (HP.out.lt hj hil he)
      have hVk : vs[i]!.k = (vs[i]!.k.1, vs[i]!.k.2) := rfl
      have hB : (visF (k1, k2) b) vs[i]! = (decide ((vs[i]!.k.1, vs[i]!.k.2) = (k1, k2)) && decide (vs[i]!.ba ≤ b)) := rfl
      rw [hB] at hS
      rw [hVk] at hM
      clear hB hVk
      obtain ⟨g, c, e1, c0, c1, c2, c3, c4, c5, c6, c7⟩ := HRw.out.ent hil
      simp only [Value.slice.injEq] at e1
      obtain ⟨rfl, _, rfl⟩ := e1
      generalize vs[i]!.n = x0 at *
      generalize vs[i]!.k.1 = x1 at *
      generalize vs[i]!.k.2 = x2 at *
      generalize vs[i]!.ba = x3 at *
      generalize vs[i]!.ix = x4 at *
      generalize vs[i]!.fl = x5 at *
      generalize vs[i]!.ci = x6 at *
      generalize vs[i]!.cv = x7 at *
      have HS := hidS hS
      have HM := hidS hM
      have HA : Hid (Grew wr (wr.alloc (.cells #[.int .i64 x0, .int .i64 x1, .int .i64 x2, .int .i64 x3, .int .i64 x4, .bool x5, .bool x6, .int .i64 x7] 112)) ∧ (wr.alloc (.cells #[.int .i64 x0, .int .i64 x1, .int .i64 x2, .int .i64 x3, .int .i64 x4, .bool x5, .bool x6, .int .i64 x7] 112)).heap[wr.heap.size]? = some (.cells #[.int .i64 x0, .int .i64 x1, .int .i64 x2, .int .i64 x3, .int .i64 x4, .bool x5, .bool x6, .int .i64 x7] 112 (0, 0))) := ⟨(Grew.refl wr).alloc _, heap_alloc_new _ _ rfl⟩
      clear hS hM
      have hgd := fun op x y => run_eqGuard op x y x1 x2 k1 k2
      have hq := run_eqKey x1 x2 k1 k2
      by_cases hk : (x1, x2) = (k1, k2)
      · rw [decide_eq_true hk] at hq
        have HKe := hidS hk
        clear hk
        cases hlc : decide (x3 ≤ b) with
        | false =>
          have HX : Hid (z = lastI (visF (k1, k2) b) vs (i + 1)) := by show _ = _; rw [HS.out, hlc, Bool.and_false]; exact HZ.out
          clear HS HZ HM HKe
          go_wp2_with fail
          generalize wr.alloc (.cells #[.int .i64 x0, .int .i64 x1, .int .i64 x2, .int .i64 x3, .int .i64 x4, .bool x5, .bool x6, .int .i64 x7] 112) = W1 at *
          generalize wr.heap.size = B9 at *
          have up : ∀ {p : Addr} {v : Value}, wr.cell? p = some v → ∀ n os, (grow (W1.drewN n) os).cell? p = some v := fun hc n os => Grew.cell (HA.out.1.trans ⟨n, os, rfl⟩) hc
          have ub : ∀ {p : Addr} {v : Value}, W1.cell? p = some v → ∀ n os, (grow (W1.drewN n) os).cell? p = some v := fun hc n os => Grew.cell ⟨n, os, rfl⟩ hc
          have q1 := ub (p := ⟨B9, 1, none⟩) (v := .int .i64 x1) (by simp [World.cell?, HA.out.2])
          have q2 := ub (p := ⟨B9, 2, none⟩) (v := .int .i64 x2) (by simp [World.cell?, HA.out.2])
          have q3 := ub (p := ⟨B9, 3, none⟩) (v := .int .i64 x3) (by simp [World.cell?, HA.out.2])
          have q4 := ub (p := ⟨B9, 4, none⟩) (v := .int .i64 x4) (by simp [World.cell?, HA.out.2])
          have q5 := ub (p := ⟨B9, 5, none⟩) (v := .bool x5) (by simp [World.cell?, HA.out.2])
          have q6 := ub (p := ⟨B9, 6, none⟩) (v := .bool x6) (by simp [World.cell?, HA.out.2])
          have q7 := ub (p := ⟨B9, 7, none⟩) (v := .int .i64 x7) (by simp [World.cell?, HA.out.2])
          have p0 := up (HG.out.cell HK0.out.1)
          have p1 := up (HG.out.cell HK0.out.2)
          have rr := up HRw.out.cells.2.2.1
          have HG1 : Hid (Grew W0 W1) := HG.out.trans HA.out.1
          clear up ub
          refine wp_region_quiet_grown mx (by kernel_rfl) ?_
          repeat (go_big_quiet_step ((go_at_call 50; exact Calls.grown_of (HCm.out _ _ _ _ _ _ _ _ _ _ _))))
          refine wpQuiet_nil ?_
          intro _ hw'
          obtain ⟨⟨nq, osq⟩, hw''⟩ := hw'
          subst hw''
          have HG2 : Hid (Grew W0 (grow (W1.drewN nq) osq)) := HG1.out.trans ⟨_, _, rfl⟩
          generalize grow (W1.drewN nq) osq = W2 at *
          clear q1 q2 q3 q4 q5 q6 q7 p0 p1  rr 
          go_wp2_with fail
          go_roundw
          case rel => exact ⟨i + 1, z, by omega, by first | rfl | go_num, by go_num, HG2, HX⟩
          case measure => simp [intOf]; omega
        | true =>
          have HX : Hid ((i : Int) = lastI (visF (k1, k2) b) vs (i + 1)) := by show _ = _; rw [HS.out, hlc, decide_eq_true HKe.out]; rfl
          by_cases hz : z < 0
          · have hzb : decide (z < 0) = true := by simpa using hz
            clear HS HZ HM HKe hz
            go_wp2_with fail
            generalize wr.alloc (.cells #[.int .i64 x0, .int .i64 x1, .int .i64 x2, .int .i64 x3, .int .i64 x4, .bool x5, .bool x6, .int .i64 x7] 112) = W1 at *
            generalize wr.heap.size = B9 at *
            have up : ∀ {p : Addr} {v : Value}, wr.cell? p = some v → ∀ n os, (grow (W1.drewN n) os).cell? p = some v := fun hc n os => Grew.cell (HA.out.1.trans ⟨n, os, rfl⟩) hc
            have ub : ∀ {p : Addr} {v : Value}, W1.cell? p = some v → ∀ n os, (grow (W1.drewN n) os).cell? p = some v := fun hc n os => Grew.cell ⟨n, os, rfl⟩ hc
            have q1 := ub (p := ⟨B9, 1, none⟩) (v := .int .i64 x1) (by simp [World.cell?, HA.out.2])
            have q2 := ub (p := ⟨B9, 2, none⟩) (v := .int .i64 x2) (by simp [World.cell?, HA.out.2])
            have q3 := ub (p := ⟨B9, 3, none⟩) (v := .int .i64 x3) (by simp [World.cell?, HA.out.2])
            have q4 := ub (p := ⟨B9, 4, none⟩) (v := .int .i64 x4) (by simp [World.cell?, HA.out.2])
            have q5 := ub (p := ⟨B9, 5, none⟩) (v := .bool x5) (by simp [World.cell?, HA.out.2])
            have q6 := ub (p := ⟨B9, 6, none⟩) (v := .bool x6) (by simp [World.cell?, HA.out.2])
            have q7 := ub (p := ⟨B9, 7, none⟩) (v := .int .i64 x7) (by simp [World.cell?, HA.out.2])
            have p0 := up (HG.out.cell HK0.out.1)
            have p1 := up (HG.out.cell HK0.out.2)
            have rr := up HRw.out.cells.2.2.1
            have HG1 : Hid (Grew W0 W1) := HG.out.trans HA.out.1
            clear up ub
            refine wp_region_quiet_grown mx (by kernel_rfl) ?_
            repeat (go_big_quiet_step ((go_at_call 50; exact Calls.grown_of (HCm.out _ _ _ _ _ _ _ _ _ _ _))))
            refine wpQuiet_nil ?_
            intro _ hw'
            obtain ⟨⟨nq, osq⟩, hw''⟩ := hw'
            subst hw''
            have HG2 : Hid (Grew W0 (grow (W1.drewN nq) osq)) := HG1.out.trans ⟨_, _, rfl⟩
            generalize grow (W1.drewN nq) osq = W2 at *
            clear q1 q2 q3 q4 q5 q6 q7 p0 p1  rr 
            go_wp2_with fail
            go_roundw
            case rel => exact ⟨i + 1, (i : Int), by omega, by first | rfl | go_num, by go_num, HG2, HX⟩
            case measure => simp [intOf]; omega
          · obtain ⟨j, rfl⟩ : ∃ j : Nat, z = (j : Int) := ⟨z.toNat, by omega⟩
            have hji : j < i := by have h1 := (lastI_lt (visF (k1, k2) b) vs i).2; rw [← HZ.out] at h1; omega
            have hjl : j < vs.length := by omega
            have hjk : vs[j]!.k = (x1, x2) := by
              have h1 := lastI_hit (visF (k1, k2) b) vs i j HZ.out.symm
              have h2 : decide (vs[j]!.k = (k1, k2)) = true := (Bool.and_eq_true _ _ ▸ h1).1
              rw [HKe.out]
              exact of_decide_eq_true h2
            have hlb := HM.out j hji hjk
            obtain ⟨g', c', e1, _, _, _, d3, d4, d5, d6, d7⟩ := HRw.out.ent hjl
            simp only [Value.slice.injEq, Option.some.injEq, Addr.mk.injEq, and_true] at e1
            obtain ⟨rfl, _⟩ := e1
            generalize vs[j]!.ba = y3 at *
            generalize vs[j]!.ix = y4 at *
            generalize vs[j]!.fl = y5 at *
            generalize vs[j]!.ci = y6 at *
            generalize vs[j]!.cv = y7 at *
            have hzb : decide ((j : Int) < 0) = false := by simp
            have hja : j < an := by omega
            clear HS HZ HM HKe hz hjk hjl
            go_wp2_with fail
            generalize wr.alloc (.cells #[.int .i64 x0, .int .i64 x1, .int .i64 x2, .int .i64 x3, .int .i64 x4, .bool x5, .bool x6, .int .i64 x7] 112) = W1 at *
            generalize wr.heap.size = B9 at *
            have up : ∀ {p : Addr} {v : Value}, wr.cell? p = some v → ∀ n os, (grow (W1.drewN n) os).cell? p = some v := fun hc n os => Grew.cell (HA.out.1.trans ⟨n, os, rfl⟩) hc
            have ub : ∀ {p : Addr} {v : Value}, W1.cell? p = some v → ∀ n os, (grow (W1.drewN n) os).cell? p = some v := fun hc n os => Grew.cell ⟨n, os, rfl⟩ hc
            have q1 := ub (p := ⟨B9, 1, none⟩) (v := .int .i64 x1) (by simp [World.cell?, HA.out.2])
            have q2 := ub (p := ⟨B9, 2, none⟩) (v := .int .i64 x2) (by simp [World.cell?, HA.out.2])
            have q3 := ub (p := ⟨B9, 3, none⟩) (v := .int .i64 x3) (by simp [World.cell?, HA.out.2])
            have q4 := ub (p := ⟨B9, 4, none⟩) (v := .int .i64 x4) (by simp [World.cell?, HA.out.2])
            have q5 := ub (p := ⟨B9, 5, none⟩) (v := .bool x5) (by simp [World.cell?, HA.out.2])
            have q6 := ub (p := ⟨B9, 6, none⟩) (v := .bool x6) (by simp [World.cell?, HA.out.2])
            have q7 := ub (p := ⟨B9, 7, none⟩) (v := .int .i64 x7) (by simp [World.cell?, HA.out.2])
            have p0 := up (HG.out.cell HK0.out.1)
            have p1 := up (HG.out.cell HK0.out.2)
            have rr := up HRw.out.cells.2.2.1
            have m3 := up d3
            have m4 := up d4
            have m5 := up d5
            have m6 := up d6
            have m7 := up d7
            have HG1 : Hid (Grew W0 W1) := HG.out.trans HA.out.1
            clear up ub
            refine wp_region_quiet_grown mx (by kernel_rfl) ?_
            repeat (go_big_quiet_step ((go_at_call 50; exact Calls.grown_of (HCm.out _ _ _ _ _ _ _ _ _ _ _))))
            refine wpQuiet_nil ?_
            intro _ hw'
            obtain ⟨⟨nq, osq⟩, hw''⟩ := hw'
            subst hw''
            have HG2 : Hid (Grew W0 (grow (W1.drewN nq) osq)) := HG1.out.trans ⟨_, _, rfl⟩
            generalize grow (W1.drewN nq) osq = W2 at *
            clear q1 q2 q3 q4 q5 q6 q7 p0 p1  rr m3 m4 m5 m6 m7
            go_wp2_with fail
            go_roundw
            case rel => exact ⟨i + 1, (i : Int), by omega, by first | rfl | go_num, by go_num, HG2, HX⟩
            case measure => simp [intOf]; omega
      · rw [decide_eq_false hk] at hq
        have HX : Hid (z = lastI (visF (k1, k2) b) vs (i + 1)) := by show _ = _; rw [HS.out, decide_eq_false hk, Bool.false_and]; exact HZ.out
        clear HS HZ HM hk
        go_wp2_with fail
        generalize wr.alloc (.cells #[.int .i64 x0, .int .i64 x1, .int .i64 x2, .int .i64 x3, .int .i64 x4, .bool x5, .bool x6, .int .i64 x7] 112) = W1 at *
        generalize wr.heap.size = B9 at *
        have up : ∀ {p : Addr} {v : Value}, wr.cell? p = some v → ∀ n os, (grow (W1.drewN n) os).cell? p = some v := fun hc n os => Grew.cell (HA.out.1.trans ⟨n, os, rfl⟩) hc
        have ub : ∀ {p : Addr} {v : Value}, W1.cell? p = some v → ∀ n os, (grow (W1.drewN n) os).cell? p = some v := fun hc n os => Grew.cell ⟨n, os, rfl⟩ hc
        have q1 := ub (p := ⟨B9, 1, none⟩) (v := .int .i64 x1) (by simp [World.cell?, HA.out.2])
        have q2 := ub (p := ⟨B9, 2, none⟩) (v := .int .i64 x2) (by simp [World.cell?, HA.out.2])
        have q3 := ub (p := ⟨B9, 3, none⟩) (v := .int .i64 x3) (by simp [World.cell?, HA.out.2])
        have q4 := ub (p := ⟨B9, 4, none⟩) (v := .int .i64 x4) (by simp [World.cell?, HA.out.2])
        have q5 := ub (p := ⟨B9, 5, none⟩) (v := .bool x5) (by simp [World.cell?, HA.out.2])
        have q6 := ub (p := ⟨B9, 6, none⟩) (v := .bool x6) (by simp [World.cell?, HA.out.2])
        have q7 := ub (p := ⟨B9, 7, none⟩) (v := .int .i64 x7) (by simp [World.cell?, HA.out.2])
        have p0 := up (HG.out.cell HK0.out.1)
        have p1 := up (HG.out.cell HK0.out.2)
        have rr := up HRw.out.cells.2.2.1
        have HG1 : Hid (Grew W0 W1) := HG.out.trans HA.out.1
        clear up ub
        refine wp_region_quiet_grown mx (by kernel_rfl) ?_
        repeat (go_big_quiet_step ((go_at_call 50; exact Calls.grown_of (HCm.out _ _ _ _ _ _ _ _ _ _ _))))
        refine wpQuiet_nil ?_
        intro _ hw'
        obtain ⟨⟨nq, osq⟩, hw''⟩ := hw'
        subst hw''
        have HG2 : Hid (Grew W0 (grow (W1.drewN nq) osq)) := HG1.out.trans ⟨_, _, rfl⟩
        generalize grow (W1.drewN nq) osq = W2 at *
        clear q1 q2 q3 q4 q5 q6 q7 p0 p1  rr 
        go_wp2_with fail
        go_roundw
        case rel => exact ⟨i + 1, z, by omega, by first | rfl | go_num, by go_num, HG2, HX⟩
        case measure => simp [intOf]; omega
    · have hie : i = an := by omega
      subst hie
      have HX : Hid (z = lastI (visF (k1, k2) b) vs i) := HZ
      have HG3 := hidS (HG0.out.trans HG.out)
      have HNb := hidS (rnumber_any wr base R P cap last _ vs HRw.out z (by have h1 := (lastI_lt (visF (k1, k2) b) vs i).2; rw [← HX.out] at h1; have := HL.out; omega))
      clear HZ
      go_wp2_with fail
      refine HNb.out.mono ?_
      rintro e w' ⟨rfl, rfl⟩
      go_wp2
      go_ret
      exact ⟨congrArg (fun y => Ending.returned (.int .i64 (numI vs y))) HX.out, HG3.out⟩
end Go.Proofs.YtbcmmeajglilbaaGreat
/-
  THE WALK OF THE DOCUMENT's Check.
-/
namespace Go.Proofs.YtbcmmeajglilbaaGreat
open Go.RowKit Go.Sort

theorem refCheck_any (w : World) (k1 k2 : Int) :
    Calls Tryz.prog 40 #[.agg #[.int .i64 k1, .int .i64 k2]] w fun e w' => e = .returned (.int .i64 (errOf (isKey (k1, k2)) 20)) ∧ ∃ q os, w' = grow (w.drewN q) os := by
  have HE : Hid (∀ b : Bool, isKey (k1, k2) = b → errOf (isKey (k1, k2)) 20 = if b then 0 else 20) := fun b h => by rw [h]; rfl
  go_enter Tryz.func40, Tryz.ntmps40
  by_cases h0 : k1 < 0
  · go_wp2
    go_ret
    refine ⟨by rw [HE.out false (by simp [isKey]; omega)]; rfl, Grew.alloc (Grew.refl _) _⟩
  · have h0' : decide (k1 < 0) = false := by simpa using h0
    by_cases h1 : 65535 < k1
    · go_wp2
      go_ret
      refine ⟨by rw [HE.out false (by simp [isKey]; omega)]; rfl, Grew.alloc (Grew.refl _) _⟩
    · have h1' : decide (65535 < k1) = false := by simpa using h1
      go_wp2
      go_ret
      refine ⟨by rw [HE.out true (by simp [isKey]; omega)]; rfl, Grew.alloc (Grew.refl _) _⟩

end Go.Proofs.YtbcmmeajglilbaaGreat
/-
  THE WALK OF Compare.
-/
namespace Go.Proofs.YtbcmmeajglilbaaGreat
open Go.RowKit Go.Sort

theorem compare_any (w : World) (a1 a2 b1 b2 : Int) :
    Calls Tryz.prog 84 #[.agg #[.int .i64 a1, .int .i64 a2], .agg #[.int .i64 b1, .int .i64 b2]] w fun e w' => e = .returned (.int .i64 (cmp (a1, a2) (b1, b2))) ∧ ∃ q os, w' = grow (w.drewN q) os := by
  have hq := run_eqKey a1 a2 b1 b2
  have hg := fun op x y => run_eqGuard op x y a1 a2 b1 b2
  have HC : Hid (∀ c, cmp (a1, a2) (b1, b2) = c → cmp (a1, a2) (b1, b2) = c) := fun c h => h
  by_cases he : (a1, a2) = (b1, b2)
  · have hd : decide ((a1, a2) = (b1, b2)) = true := by simpa using he
    rw [hd] at hq
    have HR : Hid (cmp (a1, a2) (b1, b2) = 0) := by rw [Hid, he]; exact cmp_self _
    clear he hd
    go_enter Tryz.func84, Tryz.ntmps84
    go_wp2
    go_ret
    exact ⟨by rw [HR.out]; rfl, (Grew.alloc (Grew.refl _) _).alloc _⟩
  · have hd : decide ((a1, a2) = (b1, b2)) = false := by simpa using he
    rw [hd] at hq
    clear hd
    by_cases h1 : a1 < b1
    · have HR : Hid (cmp (a1, a2) (b1, b2) = -1) := by rw [Hid]; exact cmp_lt (by rw [lt_iff]; exact .inl h1)
      have h1' : decide (a1 < b1) = true := by simpa using h1
      clear he
      go_enter Tryz.func84, Tryz.ntmps84
      go_wp2
      go_ret
      exact ⟨by rw [HR.out]; rfl, (Grew.alloc (Grew.refl _) _).alloc _⟩
    · have h1' : decide (a1 < b1) = false := by simpa using h1
      by_cases h2 : a1 = b1
      · subst h2
        by_cases h3 : a2 < b2
        · have HR : Hid (cmp (a1, a2) (a1, b2) = -1) := by rw [Hid]; exact cmp_lt (by rw [lt_iff]; exact .inr ⟨rfl, h3⟩)
          clear he
          go_enter Tryz.func84, Tryz.ntmps84
          go_wp2
          go_ret
          exact ⟨by rw [HR.out]; rfl, (Grew.alloc (Grew.refl _) _).alloc _⟩
        · have h4 : b2 < a2 := by
            rcases Int.lt_trichotomy a2 b2 with h | h | h
            · exact absurd h h3
            · exact absurd (by rw [h]) he
            · exact h
          have HR : Hid (cmp (a1, a2) (a1, b2) = 1) := by rw [Hid]; exact cmp_gt (by rw [lt_iff]; exact .inr ⟨rfl, h4⟩)
          have h3' : decide (a2 < b2) = false := by simpa using h3
          clear he
          go_enter Tryz.func84, Tryz.ntmps84
          go_wp2
          go_ret
          exact ⟨by rw [HR.out]; rfl, (Grew.alloc (Grew.refl _) _).alloc _⟩
      · have h2' : (a1 == b1) = false := by simpa using h2
        have HR : Hid (cmp (a1, a2) (b1, b2) = 1) := by rw [Hid]; exact cmp_gt (by rw [lt_iff]; simp only; omega)
        clear he
        go_enter Tryz.func84, Tryz.ntmps84
        go_wp2
        go_ret
        exact ⟨by rw [HR.out]; rfl, (Grew.alloc (Grew.refl _) _).alloc _⟩

end Go.Proofs.YtbcmmeajglilbaaGreat
/-
  THE WALK OF THE DOCUMENT's Compare.
-/
namespace Go.Proofs.YtbcmmeajglilbaaGreat
open Go.RowKit Go.Sort

theorem refCompare_any (w : World) (a1 a2 b1 b2 : Int) :
    Calls Tryz.prog 94 #[.agg #[.int .i64 a1, .int .i64 a2], .agg #[.int .i64 b1, .int .i64 b2]] w fun e w' => e = .returned (.int .i64 (cmp (a1, a2) (b1, b2))) ∧ ∃ q os, w' = grow (w.drewN q) os := by
  by_cases h1 : a1 < b1
  · have HR : Hid (cmp (a1, a2) (b1, b2) = -1) := by rw [Hid]; exact cmp_lt (by rw [lt_iff]; exact .inl h1)
    go_enter Tryz.func94, Tryz.ntmps94
    go_wp2
    go_ret
    exact ⟨by rw [HR.out]; rfl, (Grew.alloc (Grew.refl _) _).alloc _⟩
  · by_cases h2 : b1 < a1
    · have HR : Hid (cmp (a1, a2) (b1, b2) = 1) := by rw [Hid]; exact cmp_gt (by rw [lt_iff]; exact .inl h2)
      go_enter Tryz.func94, Tryz.ntmps94
      go_wp2
      go_ret
      exact ⟨by rw [HR.out]; rfl, (Grew.alloc (Grew.refl _) _).alloc _⟩
    · have he : a1 = b1 := by omega
      by_cases h3 : a2 < b2
      · have HR : Hid (cmp (a1, a2) (b1, b2) = -1) := by rw [Hid]; exact cmp_lt (by rw [lt_iff]; exact .inr ⟨he, h3⟩)
        clear he
        go_enter Tryz.func94, Tryz.ntmps94
        go_wp2
        go_ret
        exact ⟨by rw [HR.out]; rfl, (Grew.alloc (Grew.refl _) _).alloc _⟩
      · by_cases h4 : b2 < a2
        · have HR : Hid (cmp (a1, a2) (b1, b2) = 1) := by rw [Hid]; exact cmp_gt (by rw [lt_iff]; exact .inr ⟨he.symm, h4⟩)
          clear he
          go_enter Tryz.func94, Tryz.ntmps94
          go_wp2
          go_ret
          exact ⟨by rw [HR.out]; rfl, (Grew.alloc (Grew.refl _) _).alloc _⟩
        · have HR : Hid (cmp (a1, a2) (b1, b2) = 0) := by rw [Hid, he, show a2 = b2 by omega]; exact cmp_self _
          clear he
          go_enter Tryz.func94, Tryz.ntmps94
          go_wp2
          go_ret
          exact ⟨by rw [HR.out]; rfl, (Grew.alloc (Grew.refl _) _).alloc _⟩

end Go.Proofs.YtbcmmeajglilbaaGreat
/-
  THE WALK OF THE DOCUMENT's ten.
-/
namespace Go.Proofs.YtbcmmeajglilbaaGreat
open Go.RowKit Go.Sort
set_option maxHeartbeats 1000000 in
theorem ten_any (w : World) (t : Nat) (r : Int) (ht : t ≤ 65535) (hr : In64 r) :
    Calls Tryz.prog 67 #[.agg #[.int .i64 (t : Int), .int .i64 r]] w fun e w' => e = .returned (.agg (cellsU8 (keyBytes ((t : Int), r)))) ∧ ∃ q os, w' = grow (w.drewN q) os := by
  have hx := xor_row r hr
  have hu := turn_lt hr
  have HK : Hid (keyBytes ((t : Int), r) = [t / 256, t % 256] ++ be 8 (turn r)) := by rw [Hid]; simp [keyBytes]
  generalize keyBytes ((t : Int), r) = KB at *
  generalize turn r = u at *
  obtain ⟨h1, h2⟩ := hr
  go_enter Tryz.func67, Tryz.ntmps67
  go_wp2
  rw [row_start]
  have HS : Hid (w.heap.size + 1 + 1 = ((w.alloc (Obj.cells #[Value.int IntKind.i64 (t : Int), Value.int IntKind.i64 r] 41)).alloc (Obj.cells #[.int .u8 0, .int .u8 0, .int .u8 0, .int .u8 0, .int .u8 0, .int .u8 0, .int .u8 0, .int .u8 0, .int .u8 0, .int .u8 0] 96)).heap.size) := by rw [Hid]; simp
  have HG : Hid (Grew w ((w.alloc (Obj.cells #[Value.int IntKind.i64 (t : Int), Value.int IntKind.i64 r] 41)).alloc (Obj.cells #[.int .u8 0, .int .u8 0, .int .u8 0, .int .u8 0, .int .u8 0, .int .u8 0, .int .u8 0, .int .u8 0, .int .u8 0, .int .u8 0] 96))) := ((Grew.refl _).alloc _).alloc _
  have H0 : Hid (((w.alloc (Obj.cells #[Value.int IntKind.i64 (t : Int), Value.int IntKind.i64 r] 41)).alloc (Obj.cells #[.int .u8 0, .int .u8 0, .int .u8 0, .int .u8 0, .int .u8 0, .int .u8 0, .int .u8 0, .int .u8 0, .int .u8 0, .int .u8 0] 96)) = (w.alloc (Obj.cells #[Value.int IntKind.i64 (t : Int), Value.int IntKind.i64 r] 41)).alloc (Obj.cells #[.int .u8 0, .int .u8 0, .int .u8 0, .int .u8 0, .int .u8 0, .int .u8 0, .int .u8 0, .int .u8 0, .int .u8 0, .int .u8 0] 96)) := rfl
  generalize hW : (w.alloc (Obj.cells #[Value.int IntKind.i64 (t : Int), Value.int IntKind.i64 r] 41)).alloc (Obj.cells #[.int .u8 0, .int .u8 0, .int .u8 0, .int .u8 0, .int .u8 0, .int .u8 0, .int .u8 0, .int .u8 0, .int .u8 0, .int .u8 0] 96) = W at *
  have HW : Hid _ := hW
  clear hW H0
  go_loopw [4, 5] (fun x y wr => ∃ n m : Nat, n + m = 8 ∧ x = .int .u64 ((u / 256 ^ n : Nat) : Int) ∧ y = .int .i64 (n : Int) ∧ Hid (wr = W.alloc (.cells (cellsU8 ([t / 256, t % 256] ++ List.replicate m 0 ++ be n u)) 96))) (fun _ y _ => 8 - (intOf y).toNat)
  case atStart => exact ⟨0, 8, rfl, by simp, rfl, rfl⟩
  case round =>
    obtain ⟨n, m, hnm, rfl, rfl, hwr⟩ := hrel
    have hq : u / 256 ^ n < 18446744073709551616 := Nat.lt_of_le_of_lt (Nat.div_le_self _ _) hu
    have HQ : Hid (u / 256 ^ n / 256 = u / 256 ^ (n + 1)) := by rw [Hid, Nat.div_div_eq_div_mul, ← Nat.pow_succ]
    have HB : Hid (be (n + 1) u = (u / 256 ^ n % 256) :: be n u) := be_cons n u
    cases m with
    | zero =>
      obtain rfl : n = 8 := by omega
      have hlen : KB.length = 10 := by rw [HK.out]; simp [be_length]
      have e := hwr.out
      rw [List.replicate_zero, List.append_nil, ← HK.out] at e
      obtain ⟨a, b, c, d, f, g, i, j, k, l, rfl⟩ := list10 hlen
      rw [cells10] at e
      have e2 := HW.out
      subst e2
      subst e
      clear hwr HW HQ HB HS HK hlen hq
      generalize u / 256 ^ 8 = q
      go_wp2
      refine bodyPost_ret (v := .agg (cellsU8 [a, b, c, d, f, g, i, j, k, l])) (by rw [cells10]; simp [results, Tryz.results67, go_sem]) rfl ?_
      exact ⟨rfl, (((Grew.refl _).alloc _).alloc _).alloc _⟩
    | succ m =>
      have hrow : wr.heap[w.heap.size + 1 + 1]? = some (.cells (cellsU8 ([t / 256, t % 256] ++ List.replicate (m + 1) 0 ++ be n u)) 96 (0, 0)) := by rw [hwr.out]; exact heap_alloc_new _ _ HS.out
      have hlen : ([t / 256, t % 256] ++ List.replicate (m + 1) 0 ++ be n u).length = 10 := by simp [be_length]; omega
      have hcell : wr.cell? ⟨w.heap.size + 1 + 1, m + 2, none⟩ = some (.int .u8 (((([t / 256, t % 256] ++ List.replicate (m + 1) 0 ++ be n u).getD (m + 2) 0 : Nat)) : Int)) := row_cell hrow _ (by omega)
      have hfro : wr.frozen? ⟨w.heap.size + 1 + 1, m + 2, none⟩ = false := frozen_of_row wr _ _ _ _ hrow
      generalize ([t / 256, t % 256] ++ List.replicate (m + 1) 0 ++ be n u).getD (m + 2) 0 = old at hcell
      generalize u / 256 ^ n = q at *
      clear hrow hlen
      have hi : ((9 : Int) - (n : Int)).toNat = m + 2 := by omega
      have hi' : (9 : Int) - (n : Int) = ((m + 2 : Nat) : Int) := by omega
      go_wp2
      go_roundw
      case rel =>
        refine ⟨n + 1, m, by omega, by rw [← HQ.out]; simp, by go_num, ?_⟩
        rw [Hid, hwr.out, show ((q : Int) % 256) = ((q % 256 : Nat) : Int) by omega, setCell_alloc _ _ _ _ _ _ HS.out, set_cellsU8, HB.out]
        rw [set_row]
      case measure => simp [intOf]; omega

end Go.Proofs.YtbcmmeajglilbaaGreat
