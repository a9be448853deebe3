import Derived.Test.YtcaibgbhebldmaaGreatJ11
import Derived.Test.YtcaibgbhebldmaaGreatJ10
import Derived.Deep.DeepCutAuto
import Derived.Test.YtcaibgbhebldmaaGreatJ04
import Derived.Test.YtcaibgbhebldmaaGreatJ07
/-
  THE WALKS OF wellFormed, sound.
-/
namespace Go.Proofs.YtcaibgbhebldmaaGreat.Kk
open Go.RowKit Go.Sort

/-- what a call that only grows the heap leaves -/
theorem grew_of {w w' : World} (h : ∃ q os, w' = grow (w.drewN q) os) : Grew w w' := h

theorem cell_new (w : World) (cs : Array Value) (T : TypeId) (j : Nat) (v : Value) (h : cs[j]? = some v) : (w.alloc (.cells cs T)).cell? ⟨w.heap.size, j, none⟩ = some v := by
  have := heap_alloc_new (w := w) (.cells cs T) _ rfl
  simp only [World.cell?, this]; exact h
set_option maxRecDepth 100000 in
set_option maxHeartbeats 1000000 in
theorem wellFormed_any (w : World) (x : Bx) (h : BxOK w x) :
    Calls Tryz.prog 25 #[bxv x] w fun e w' => e = .returned (.int .i64 (formN x.t)) ∧ Grew w w' := by
  have HO : Hid (BxOK w x) := h
  clear h
  obtain ⟨⟨proc, args, reads, writes⟩, aA, cA, aR, cR, aW, cW⟩ := x
  have HF : Hid (formN ⟨proc, args, reads, writes⟩ = if proc < 0 ∨ 64 ≤ proc then 61 else if 16 < args.length then 62 else if 16 < reads.length then 63 else if 16 < writes.length then 64 else if Rise reads ∧ Rise writes then 0 else 65) := rfl
  simp only [bxv]
  generalize formN ⟨proc, args, reads, writes⟩ = F at *
  have HG : Hid (Grew w (w.alloc (.cells #[.int .i64 proc, .slice aA args.length cA, .slice aR reads.length cR, .slice aW writes.length cW] 46))) := (Grew.refl _).alloc _
  have HR : Hid (∀ W, Grew w W → Calls Tryz.prog 13 #[.slice aR reads.length cR] W fun e w' => e = .returned (.bool (decide (Rise reads))) ∧ ∃ q os, w' = grow (W.drewN q) os) := fun W hg => rises_any W aR cR reads.length reads rfl (HO.out.reads.grew hg) (by have := HO.out.bigR; simp only at this; omega)
  have HW : Hid (∀ W, Grew w W → Calls Tryz.prog 13 #[.slice aW writes.length cW] W fun e w' => e = .returned (.bool (decide (Rise writes))) ∧ ∃ q os, w' = grow (W.drewN q) os) := fun W hg => rises_any W aW cW writes.length writes rfl (HO.out.writes.grew hg) (by have := HO.out.bigW; simp only at this; omega)
  by_cases h0 : proc < 0
  · have HE : Hid (F = 61) := by rw [HF.out, if_pos (.inl h0)]; rfl
    go_enter Tryz.func25, Tryz.ntmps25
    go_wp2
    go_ret
    exact ⟨by rw [HE.out]; rfl, HG.out⟩
  by_cases h1 : 64 ≤ proc
  · have HE : Hid (F = 61) := by rw [HF.out, if_pos (.inr h1)]; rfl
    go_enter Tryz.func25, Tryz.ntmps25
    go_wp2
    go_ret
    exact ⟨by rw [HE.out]; rfl, HG.out⟩
  by_cases h2 : 16 < args.length
  · have HE : Hid (F = 62) := by rw [HF.out, if_neg (by omega), if_pos h2]; rfl
    go_enter Tryz.func25, Tryz.ntmps25
    go_wp2
    go_ret
    exact ⟨by rw [HE.out]; rfl, HG.out⟩
  by_cases h3 : 16 < reads.length
  · have HE : Hid (F = 63) := by rw [HF.out, if_neg (by omega), if_neg h2, if_pos h3]; rfl
    go_enter Tryz.func25, Tryz.ntmps25
    go_wp2
    go_ret
    exact ⟨by rw [HE.out]; rfl, HG.out⟩
  by_cases h4 : 16 < writes.length
  · have HE : Hid (F = 64) := by rw [HF.out, if_neg (by omega), if_neg h2, if_neg h3, if_pos h4]; rfl
    go_enter Tryz.func25, Tryz.ntmps25
    go_wp2
    go_ret
    exact ⟨by rw [HE.out]; rfl, HG.out⟩
  have HE : Hid (F = if (decide (Rise reads) && decide (Rise writes)) = true then 0 else 65) := by
    rw [HF.out, if_neg (by omega), if_neg h2, if_neg h3, if_neg h4]
    by_cases r1 : Rise reads <;> by_cases r2 : Rise writes <;> simp [r1, r2, Hid]
  clear HF
  generalize decide (Rise reads) = b1 at *
  generalize decide (Rise writes) = b2 at *
  have HC : Hid (∀ W, Grew w W → W.cell? ⟨w.heap.size, 3, none⟩ = some (.slice aW writes.length cW) → True) := fun _ _ _ => trivial
  go_enter Tryz.func25, Tryz.ntmps25
  go_wp2_with fail
  refine (HR.out _ HG.out).mono ?_
  rintro e w1 ⟨rfl, hg⟩
  have HG1 : Hid (Grew w w1) := HG.out.trans hg
  have k3 : w1.cell? ⟨w.heap.size, 3, none⟩ = some (.slice aW writes.length cW) := Grew.cell hg (cell_new _ _ _ 3 _ rfl)
  clear hg HG HC HR
  cases b1
  · go_wp2
    go_ret
    exact ⟨by rw [HE.out]; rfl, HG1.out⟩
  · go_wp2_with fail
    refine (HW.out _ HG1.out).mono ?_
    rintro e w2 ⟨rfl, hg⟩
    have HG2 : Hid (Grew w w2) := HG1.out.trans hg
    clear hg HG1 HW k3
    cases b2
    all_goals
      go_wp2
      go_ret
      exact ⟨by rw [HE.out]; rfl, HG2.out⟩

set_option maxRecDepth 100000 in
set_option maxHeartbeats 1000000 in
theorem sound_any (w : World) (lo : Option Addr) (n lc : Nat) (Ps : List Pr) (x : Bx) (hl : ProcsAt w lo Ps) (hn : n = Ps.length) (h : BxOK w x) :
    Calls Tryz.prog 52 #[.slice lo n lc, bxv x] w fun e w' => e = .returned (.int .i64 (soundN Ps x.t)) ∧ Grew w w' := by
  have HO : Hid (BxOK w x) := h
  have HL : Hid (ProcsAt w lo Ps ∧ n = Ps.length) := ⟨hl, hn⟩
  have hp := h.pin
  clear h hl hn
  have HW : Hid (∀ W, Grew w W → Calls Tryz.prog 25 #[bxv x] W fun e w' => e = .returned (.int .i64 (formN x.t)) ∧ Grew W w') := fun W hg => wellFormed_any W x (HO.out.kept hg.below)
  obtain ⟨⟨proc, args, reads, writes⟩, aA, cA, aR, cR, aW, cW⟩ := x
  simp only [bxv] at *
  have HG : Hid (Grew w (w.alloc (.cells #[.int .i64 proc, .slice aA args.length cA, .slice aR reads.length cR, .slice aW writes.length cW] 46))) := (Grew.refl _).alloc _
  have HF : Hid (soundN Ps ⟨proc, args, reads, writes⟩ = if proc < 0 ∨ (n : Int) ≤ proc then 61 else
    if (args.length : Int) ≠ (pd Ps proc.toNat).p.args then 62 else if (reads.length : Int) ≠ (pd Ps proc.toNat).p.reads then 63 else if (writes.length : Int) ≠ (pd Ps proc.toNat).p.writes then 64 else formN ⟨proc, args, reads, writes⟩) := by rw [HL.out.2]; rfl
  generalize soundN Ps ⟨proc, args, reads, writes⟩ = F at *
  generalize formN ⟨proc, args, reads, writes⟩ = FN at *
  by_cases h0 : proc < 0
  · have HE : Hid (F = 61) := by rw [HF.out, if_pos (.inl h0)]; rfl
    go_enter Tryz.func52, Tryz.ntmps52
    go_wp2
    go_ret
    exact ⟨by rw [HE.out]; rfl, HG.out⟩
  by_cases h1 : (n : Int) ≤ proc
  · have HE : Hid (F = 61) := by rw [HF.out, if_pos (.inr h1)]; rfl
    go_enter Tryz.func52, Tryz.ntmps52
    go_wp2
    go_ret
    exact ⟨by rw [HE.out]; rfl, HG.out⟩
  obtain ⟨q, rfl⟩ : ∃ q : Nat, proc = (q : Int) := ⟨proc.toNat, by omega⟩
  have hq : q < n := by omega
  obtain ⟨b, off, rfl, c0, c1, c2, c3, c4, c5⟩ := HL.out.1.get q (by have := HL.out.2; omega)
  have HF2 : Hid (F = if (args.length : Int) ≠ (pd Ps q).p.args then 62 else if (reads.length : Int) ≠ (pd Ps q).p.reads then 63 else if (writes.length : Int) ≠ (pd Ps q).p.writes then 64 else FN) := by rw [HF.out, if_neg (by omega)]; rfl
  clear HF c0 h0 h1
  generalize pd Ps q = y at *
  obtain ⟨nm, ⟨pa, pr, pw, pl⟩, ya, yn, yc, yL⟩ := y
  simp only at c1 c2 c3 c4 c5 HF2
  have HB : Hid (∀ W, Grew w W → W.cell? ⟨b, off + q * 6 + 1, none⟩ = some (.int .i64 pa) ∧ W.cell? ⟨b, off + q * 6 + 2, none⟩ = some (.int .i64 pr) ∧ W.cell? ⟨b, off + q * 6 + 3, none⟩ = some (.int .i64 pw) ∧ W.cell? ⟨b, off + q * 6 + 4, none⟩ = some (.int .i64 pl) ∧ W.cell? ⟨b, off + q * 6 + 5, none⟩ = some (.slice ya yn yc)) := fun W hg => ⟨hg.cell c1, hg.cell c2, hg.cell c3, hg.cell c4, hg.cell c5⟩
  obtain ⟨d1, d2, d3, d4, d5⟩ := HB.out _ HG.out
  clear c1 c2 c3 c4 c5
  have HG2 : Hid (Grew w ((w.alloc (.cells #[.int .i64 (q : Int), .slice aA args.length cA, .slice aR reads.length cR, .slice aW writes.length cW] 46)).alloc (.cells #[.int .i64 pa, .int .i64 pr, .int .i64 pw, .int .i64 pl, .slice ya yn yc] 50))) := HG.out.alloc _
  go_enter Tryz.func52, Tryz.ntmps52
  by_cases e1 : (args.length : Int) = pa
  · by_cases e2 : (reads.length : Int) = pr
    · by_cases e3 : (writes.length : Int) = pw
      · have HE : Hid (F = FN) := by rw [HF2.out, if_neg (by simpa using e1), if_neg (by simpa using e2), if_neg (by simpa using e3)]; rfl
        go_wp2_with fail
        refine (HW.out _ HG2.out).mono ?_
        rintro e w1 ⟨rfl, hg⟩
        have HG3 : Hid (Grew w w1) := HG2.out.trans hg
        clear hg HW HF2 HB HG HG2
        go_wp2
        go_ret
        exact ⟨by rw [HE.out]; rfl, HG3.out⟩
      · have HE : Hid (F = 64) := by rw [HF2.out, if_neg (by simpa using e1), if_neg (by simpa using e2), if_pos e3]; rfl
        go_wp2
        go_ret
        exact ⟨by rw [HE.out]; rfl, HG2.out⟩
    · have HE : Hid (F = 63) := by rw [HF2.out, if_neg (by simpa using e1), if_pos e2]; rfl
      go_wp2
      go_ret
      exact ⟨by rw [HE.out]; rfl, HG2.out⟩
  · have HE : Hid (F = 62) := by rw [HF2.out, if_pos e1]; rfl
    go_wp2
    go_ret
    exact ⟨by rw [HE.out]; rfl, HG2.out⟩
end Go.Proofs.YtcaibgbhebldmaaGreat.Kk
/-
  THE WALKS OF each, Check.
-/
namespace Go.Proofs.YtcaibgbhebldmaaGreat.Kk
open Go.RowKit Go.Sort

set_option maxRecDepth 100000 in
set_option maxHeartbeats 1000000 in
theorem eachS_any (w : World) (ao : Option Addr) (n cap : Nat) (Bs : List Bx) (f : Tp → Int) (B : Nat) (h : BatAt w ao Bs) (hn : n = Bs.length) (hm : n ≤ 140737488355328)
    (hl : ∀ i, i < Bs.length → ∀ W, Grew w W → Calls Tryz.prog 51 #[bxv (bd Bs i), .pointer (some ⟨B, 0, none⟩)] W fun e w' => e = .returned (.int .i64 (f (bd Bs i).t)) ∧ Grew W w') :
    Calls Tryz.prog 24 #[.slice ao n cap, .func (.func 51) #[] #[.pointer (some ⟨B, 0, none⟩)]] w fun e w' => e = .returned (.tuple #[.int .i64 ((eachN f (Bs.map Bx.t)).1 : Int), .int .i64 (eachN f (Bs.map Bx.t)).2]) ∧ Grew w w' := by
  have H : Hid (BatAt w ao Bs) := h
  have HN : Hid (n = Bs.length) := hn
  have HL : Hid (∀ i, i < Bs.length → ∀ W, Grew w W → Calls Tryz.prog 51 #[bxv (bd Bs i), .pointer (some ⟨B, 0, none⟩)] W fun e w' => e = .returned (.int .i64 (f (bd Bs i).t)) ∧ Grew W w') := hl
  have HT : Hid ((Bs.map Bx.t).length = n) := by rw [hn]; simp [Hid]
  clear h hn hl
  by_cases h64 : 64 < n
  · have HE : Hid (eachN f (Bs.map Bx.t) = (0, 60)) := eachN_big (by rw [HT.out]; exact h64)
    have h64i : (64 : Int) < n := by omega
    go_enter Tryz.func24, Tryz.ntmps24
    go_wp2
    go_ret2
    exact ⟨by rw [HE.out]; rfl, Grew.refl _⟩
  have h64i : ¬ (64 : Int) < n := by omega
  go_enter Tryz.func24, Tryz.ntmps24
  go_wp2_with fail
  go_loopw [14] (fun x wr => ∃ k : Nat, k ≤ n ∧ x = .int .i64 (k : Int) ∧ Hid (Grew w wr) ∧ Hid (∀ i, i < k → f (td (Bs.map Bx.t) i) = 0)) (fun x _ => n - (intOf x).toNat)
  case atStart => exact ⟨0, Nat.zero_le _, rfl, Grew.refl _, fun i hi => by omega⟩
  case round =>
    obtain ⟨k, hk, rfl, HG, HZ⟩ := hrel
    by_cases hlt : k < n
    · have hlt' : k < Bs.length := by have := HN.out; omega
      have HTd : Hid (td (Bs.map Bx.t) k = (bd Bs k).t) := td_map hlt'
      obtain ⟨b, off, rfl, c0, c1, c2, c3⟩ := TxsAt.get (H.out.at_.kept HG.out.below) k hlt'
      have HC : Hid (∀ W, Grew w W → Calls Tryz.prog 51 #[bxv (bd Bs k), .pointer (some ⟨B, 0, none⟩)] W fun e w' => e = .returned (.int .i64 (f (bd Bs k).t)) ∧ Grew W w') := HL.out k hlt'
      generalize bd Bs k = x at *
      obtain ⟨⟨proc, args, reads, writes⟩, aA, cA, aR, cR, aW, cW⟩ := x
      simp only [bxv] at c0 c1 c2 c3 HC HTd
      have HG1 : Hid (Grew w (wr.alloc (.cells #[.int .i64 proc, .slice aA args.length cA, .slice aR reads.length cR, .slice aW writes.length cW] 46))) := HG.out.alloc _
      obtain ⟨r, hr⟩ : ∃ r, r = f ⟨proc, args, reads, writes⟩ := ⟨_, rfl⟩
      rw [← hr] at HC
      have HR : Hid (f (td (Bs.map Bx.t) k) = r) := by rw [HTd.out, hr]; rfl
      clear hr HTd
      go_wp2_with fail
      refine (HC.out _ HG1.out).mono ?_
      rintro e w2 ⟨rfl, hg⟩
      have HG2 : Hid (Grew w w2) := HG1.out.trans hg
      clear hg HC HG1 HG c0 c1 c2 c3
      by_cases h0 : r = 0
      · subst h0
        go_wp2
        go_roundw
        case rel => exact ⟨k + 1, by omega, by go_num, HG2, fun i hi => by
          by_cases e : i = k
          · subst e; exact HR.out
          · exact HZ.out i (by omega)⟩
        case measure => simp [intOf]; omega
      · have h0' : ¬ r = 0 := h0
        have HE : Hid (eachN f (Bs.map Bx.t) = (k, r)) := by
          have := eachN_stop (f := f) (Ts := Bs.map Bx.t) (k := k) (by rw [HT.out]; omega) HZ.out (by rw [HR.out]; exact h0) (by rw [HT.out]; exact hlt)
          rw [HR.out] at this; exact this
        go_wp2
        go_ret2
        exact ⟨by rw [HE.out]; rfl, HG2.out⟩
    · obtain rfl : k = n := by omega
      have HE : Hid (eachN f (Bs.map Bx.t) = (0, 0)) := eachN_zero (by rw [HT.out]; omega) (by rw [HT.out]; exact HZ.out)
      go_wp2
      go_ret2
      exact ⟨by rw [HE.out]; rfl, HG.out⟩
set_option maxRecDepth 100000 in
set_option maxHeartbeats 1000000 in
theorem eachF_any (w : World) (ao : Option Addr) (n cap : Nat) (Bs : List Bx) (f : Tp → Int) (h : BatAt w ao Bs) (hn : n = Bs.length) (hm : n ≤ 140737488355328)
    (hl : ∀ i, i < Bs.length → ∀ W, Grew w W → Calls Tryz.prog 25 #[bxv (bd Bs i)] W fun e w' => e = .returned (.int .i64 (f (bd Bs i).t)) ∧ Grew W w') :
    Calls Tryz.prog 24 #[.slice ao n cap, .func (.func 25) #[] #[]] w fun e w' => e = .returned (.tuple #[.int .i64 ((eachN f (Bs.map Bx.t)).1 : Int), .int .i64 (eachN f (Bs.map Bx.t)).2]) ∧ Grew w w' := by
  have H : Hid (BatAt w ao Bs) := h
  have HN : Hid (n = Bs.length) := hn
  have HL : Hid (∀ i, i < Bs.length → ∀ W, Grew w W → Calls Tryz.prog 25 #[bxv (bd Bs i)] W fun e w' => e = .returned (.int .i64 (f (bd Bs i).t)) ∧ Grew W w') := hl
  have HT : Hid ((Bs.map Bx.t).length = n) := by rw [hn]; simp [Hid]
  clear h hn hl
  by_cases h64 : 64 < n
  · have HE : Hid (eachN f (Bs.map Bx.t) = (0, 60)) := eachN_big (by rw [HT.out]; exact h64)
    have h64i : (64 : Int) < n := by omega
    go_enter Tryz.func24, Tryz.ntmps24
    go_wp2
    go_ret2
    exact ⟨by rw [HE.out]; rfl, Grew.refl _⟩
  have h64i : ¬ (64 : Int) < n := by omega
  go_enter Tryz.func24, Tryz.ntmps24
  go_wp2_with fail
  go_loopw [14] (fun x wr => ∃ k : Nat, k ≤ n ∧ x = .int .i64 (k : Int) ∧ Hid (Grew w wr) ∧ Hid (∀ i, i < k → f (td (Bs.map Bx.t) i) = 0)) (fun x _ => n - (intOf x).toNat)
  case atStart => exact ⟨0, Nat.zero_le _, rfl, Grew.refl _, fun i hi => by omega⟩
  case round =>
    obtain ⟨k, hk, rfl, HG, HZ⟩ := hrel
    by_cases hlt : k < n
    · have hlt' : k < Bs.length := by have := HN.out; omega
      have HTd : Hid (td (Bs.map Bx.t) k = (bd Bs k).t) := td_map hlt'
      obtain ⟨b, off, rfl, c0, c1, c2, c3⟩ := TxsAt.get (H.out.at_.kept HG.out.below) k hlt'
      have HC : Hid (∀ W, Grew w W → Calls Tryz.prog 25 #[bxv (bd Bs k)] W fun e w' => e = .returned (.int .i64 (f (bd Bs k).t)) ∧ Grew W w') := HL.out k hlt'
      generalize bd Bs k = x at *
      obtain ⟨⟨proc, args, reads, writes⟩, aA, cA, aR, cR, aW, cW⟩ := x
      simp only [bxv] at c0 c1 c2 c3 HC HTd
      have HG1 : Hid (Grew w (wr.alloc (.cells #[.int .i64 proc, .slice aA args.length cA, .slice aR reads.length cR, .slice aW writes.length cW] 46))) := HG.out.alloc _
      obtain ⟨r, hr⟩ : ∃ r, r = f ⟨proc, args, reads, writes⟩ := ⟨_, rfl⟩
      rw [← hr] at HC
      have HR : Hid (f (td (Bs.map Bx.t) k) = r) := by rw [HTd.out, hr]; rfl
      clear hr HTd
      go_wp2_with fail
      refine (HC.out _ HG1.out).mono ?_
      rintro e w2 ⟨rfl, hg⟩
      have HG2 : Hid (Grew w w2) := HG1.out.trans hg
      clear hg HC HG1 HG c0 c1 c2 c3
      by_cases h0 : r = 0
      · subst h0
        go_wp2
        go_roundw
        case rel => exact ⟨k + 1, by omega, by go_num, HG2, fun i hi => by
          by_cases e : i = k
          · subst e; exact HR.out
          · exact HZ.out i (by omega)⟩
        case measure => simp [intOf]; omega
      · have h0' : ¬ r = 0 := h0
        have HE : Hid (eachN f (Bs.map Bx.t) = (k, r)) := by
          have := eachN_stop (f := f) (Ts := Bs.map Bx.t) (k := k) (by rw [HT.out]; omega) HZ.out (by rw [HR.out]; exact h0) (by rw [HT.out]; exact hlt)
          rw [HR.out] at this; exact this
        go_wp2
        go_ret2
        exact ⟨by rw [HE.out]; rfl, HG2.out⟩
    · obtain rfl : k = n := by omega
      have HE : Hid (eachN f (Bs.map Bx.t) = (0, 0)) := eachN_zero (by rw [HT.out]; omega) (by rw [HT.out]; exact HZ.out)
      go_wp2
      go_ret2
      exact ⟨by rw [HE.out]; rfl, HG.out⟩
set_option maxRecDepth 100000 in
set_option maxHeartbeats 1000000 in
theorem check1_any (w : World) (B : Nat) (lo : Option Addr) (n lc : Nat) (Ps : List Pr) (x : Bx) (hb : w.cell? ⟨B, 0, none⟩ = some (.slice lo n lc)) (hl : ProcsAt w lo Ps) (hn : n = Ps.length) (h : BxOK w x) :
    Calls Tryz.prog 51 #[bxv x, .pointer (some ⟨B, 0, none⟩)] w fun e w' => e = .returned (.int .i64 (soundN Ps x.t)) ∧ Grew w w' := by
  have HG : Hid (Grew w (w.alloc (.cells #[.int .i64 x.t.proc, .slice x.aA x.t.args.length x.cA, .slice x.aR x.t.reads.length x.cR, .slice x.aW x.t.writes.length x.cW] 46))) := (Grew.refl _).alloc _
  have HC : Hid (∀ W, Grew w W → Calls Tryz.prog 52 #[.slice lo n lc, bxv x] W fun e w' => e = .returned (.int .i64 (soundN Ps x.t)) ∧ Grew W w') := fun W hg => sound_any W lo n lc Ps x (hl.grew hg) hn (h.kept hg.below)
  clear hl hn h
  have hb' : (w.alloc (.cells #[.int .i64 x.t.proc, .slice x.aA x.t.args.length x.cA, .slice x.aR x.t.reads.length x.cR, .slice x.aW x.t.writes.length x.cW] 46)).cell? ⟨B, 0, none⟩ = some (.slice lo n lc) := HG.out.cell hb
  clear hb
  generalize soundN Ps x.t = F at *
  obtain ⟨⟨proc, args, reads, writes⟩, aA, cA, aR, cR, aW, cW⟩ := x
  simp only [bxv] at *
  go_enter Tryz.func51, Tryz.ntmps51
  go_wp2_with fail
  refine (HC.out _ HG.out).mono ?_
  rintro e w2 ⟨rfl, hg⟩
  have HG2 : Hid (Grew w w2) := HG.out.trans hg
  clear hg HC HG hb'
  go_wp2
  go_ret
  exact ⟨rfl, HG2.out⟩

set_option maxRecDepth 100000 in
set_option maxHeartbeats 1000000 in
theorem check_b (w : World) (lo ao : Option Addr) (n lc m cap : Nat) (Ps : List Pr) (Bs : List Bx) (hl : ProcsAt w lo Ps) (hn : n = Ps.length) (h : BatAt w ao Bs) (hn' : m = Bs.length) (hm : m ≤ 140737488355328) :
    Calls Tryz.prog 23 #[.slice lo n lc, .slice ao m cap] w fun e w' => e = .returned (.tuple #[.int .i64 ((eachN (soundN Ps) (Bs.map Bx.t)).1 : Int), .int .i64 (eachN (soundN Ps) (Bs.map Bx.t)).2]) ∧ Grew w w' := by
  have hmf : ∀ (fn : Fn) (first cap : Array Value) (w : World), (Instr.makeFunc fn first cap).run Tryz.prog w = .ok (.func fn first cap) w := fun _ _ _ _ => rfl
  have HG : Hid (Grew w (w.alloc (.cells #[.slice lo n lc] 22))) := (Grew.refl _).alloc _
  have HB : Hid ((w.alloc (.cells #[.slice lo n lc] 22)).cell? ⟨w.heap.size, 0, none⟩ = some (.slice lo n lc)) := cell_new _ _ _ 0 _ rfl
  have HC : Hid (Calls Tryz.prog 24 #[.slice ao m cap, .func (.func 51) #[] #[.pointer (some ⟨w.heap.size, 0, none⟩)]] (w.alloc (.cells #[.slice lo n lc] 22)) fun e w' => e = .returned (.tuple #[.int .i64 ((eachN (soundN Ps) (Bs.map Bx.t)).1 : Int), .int .i64 (eachN (soundN Ps) (Bs.map Bx.t)).2]) ∧ Grew (w.alloc (.cells #[.slice lo n lc] 22)) w') :=
    eachS_any _ ao m cap Bs (soundN Ps) w.heap.size (h.kept HG.out.below) hn' hm (fun i hi W hg => check1_any W w.heap.size lo n lc Ps _ (hg.cell HB.out) (hl.grew (HG.out.trans hg)) hn ((h.lst i hi).kept (HG.out.trans hg).below))
  clear hl hn h hn' HB
  generalize eachN (soundN Ps) (Bs.map Bx.t) = E at *
  go_enter Tryz.func23, Tryz.ntmps23
  go_wp2_with fail
  refine HC.out.mono ?_
  rintro e w2 ⟨rfl, hg⟩
  have HG2 : Hid (Grew w w2) := HG.out.trans hg
  clear hg HC HG
  go_wp2
  go_ret2
  exact ⟨rfl, HG2.out⟩
end Go.Proofs.YtcaibgbhebldmaaGreat.Kk
/-
  THE WALKS OF putArgs, putKeys, Encode.
-/
namespace Go.Proofs.YtcaibgbhebldmaaGreat.Kk
open Go.RowKit Go.Sort

/-- BLOCK r IS A Writer OF T -/
def Wr (W : World) (base r : Nat) (T : List Nat) : Prop := ∃ v, IsWriter W base r v T
theorem Wr.kept {W W' : World} {base r : Nat} {T : List Nat} (h : Wr W base r T) (hb : Below W.heap.size W W') : Wr W' base r T := by
  obtain ⟨v, h⟩ := h; exact ⟨v, h.kept hb⟩
theorem Wr.size {W : World} {base r : Nat} {T : List Nat} (h : Wr W base r T) : base ≤ W.heap.size := by obtain ⟨v, h⟩ := h; exact h.size
/-- block k is not the Writer's -/
def Free (W : World) (r k : Nat) : Prop := k < W.heap.size ∧ k ≠ r ∧ ∀ v, W.cell? ⟨r, 0, none⟩ = some v → v.ownBlock ≠ some k
/-- what stays while a Writer is written -/
structure Fl (base r : Nat) (w w' : World) : Prop where
  bel : Below base w w'
  fre : ∀ k, Free w r k → w'.heap[k]? = w.heap[k]? ∧ Free w' r k
theorem Fl.trans {base r : Nat} {w w1 w2 : World} (h : Fl base r w w1) (k : Fl base r w1 w2) : Fl base r w w2 :=
  ⟨h.bel.trans k.bel, fun j hj => ⟨(k.fre j (h.fre j hj).2).1.trans (h.fre j hj).1, (k.fre j (h.fre j hj).2).2⟩⟩
theorem Fl.grew {base r : Nat} {w w1 w2 : World} {T : List Nat} (h : Fl base r w w1) (hw : Wr w1 base r T) (k : Below w1.heap.size w1 w2) : Fl base r w w2 := by
  refine h.trans ⟨k.mono hw.size, fun j hj => ⟨k.block j hj.1, Nat.lt_of_lt_of_le hj.1 k.size, hj.2.1, fun v hv => hj.2.2 v ?_⟩⟩
  obtain ⟨u, hu⟩ := hw
  simp only [World.cell?] at hv ⊢
  rw [k.block r hu.lt] at hv; exact hv
theorem Fl.refl (base r : Nat) (w : World) : Fl base r w w := ⟨Below.refl _ _, fun _ h => ⟨rfl, h⟩⟩
theorem Fl.of {base r : Nat} {w w' : World} {v v' : Value} {L L' : List Nat} (h : IsWriter w base r v L) (h' : IsWriter w' base r v' L') (hw : Wrote w w' r v v') : Fl base r w w' := by
  refine ⟨hw.below h, fun k hk => ⟨hw.block k hk.1 hk.2.1 (hk.2.2 v h.cell), Nat.lt_of_lt_of_le hk.1 hw.size, hk.2.1, fun u hu e => ?_⟩⟩
  have e1 : u = v' := by have := h'.cell; rw [hu] at this; exact Option.some.inj this
  subst e1
  rcases hw.lies k e with h1 | h1
  · exact hk.2.2 v h.cell h1
  · have := hk.1; omega
theorem free_new {W : World} {base r : Nat} {T : List Nat} (h : Wr W base r T) (o : Obj) : Free (W.alloc o) r W.heap.size := by
  obtain ⟨v, h⟩ := h
  have hr := h.lt
  refine ⟨by simp, by omega, fun u hu e => ?_⟩
  have h1 : (W.alloc o).cell? ⟨r, 0, none⟩ = some v := ((Grew.refl W).alloc o).cell h.cell
  rw [hu] at h1
  cases h1
  have := (h.2.1.2.lt _ e).2
  omega
/-- what a call of a Writer leaves -/
def WPost (w : World) (base r : Nat) (T : List Nat) (e : Ending) (w' : World) : Prop := e = .returned (.tuple #[]) ∧ Wr w' base r T ∧ Fl base r w w'
theorem wUint_b (w : World) (base r n : Nat) (T : List Nat) (h : Wr w base r T) (hn : n < 18446744073709551616) (hl : T.length + 11 ≤ 140737488355328) :
    Calls Tryz.prog 27 #[.pointer (some ⟨r, 0, none⟩), .int .u64 (n : Int)] w fun e w' => WPost w base r (T ++ uint 10 n) e w' := by
  obtain ⟨v, h⟩ := h
  refine (wUint_any w base r n v T h hn hl).mono ?_
  rintro e w' ⟨rfl, v', h1, h2⟩
  exact ⟨rfl, ⟨v', h1⟩, Fl.of h h1 h2⟩
theorem wInt_b (w : World) (base r : Nat) (n : Int) (T : List Nat) (h : Wr w base r T) (hn : In64 n) (hl : T.length + 11 ≤ 140737488355328) :
    Calls Tryz.prog 54 #[.pointer (some ⟨r, 0, none⟩), .int .i64 n] w fun e w' => WPost w base r (T ++ uint 10 (fold n)) e w' := by
  obtain ⟨v, h⟩ := h
  refine (wInt_any w base r n v T h hn.1 hn.2 hl).mono ?_
  rintro e w' ⟨rfl, v', h1, h2⟩
  exact ⟨rfl, ⟨v', h1⟩, Fl.of h h1 h2⟩
theorem wRaw_b (w : World) (base r : Nat) (T zs : List Nat) (ao : Option Addr) (n cap : Nat) (h : Wr w base r T) (hn : n = zs.length) (hb : BytesAt w ao zs) (hnil : ao = none → cap = 0) (hl : T.length + zs.length ≤ 140737488355328) :
    Calls Tryz.prog 56 #[.pointer (some ⟨r, 0, none⟩), .slice ao n cap] w fun e w' => WPost w base r (T ++ zs) e w' := by
  obtain ⟨v, h⟩ := h
  refine (wRaw_any w base r v T zs ao n cap h hn hb hnil hl).mono ?_
  rintro e w' ⟨rfl, v', h1, h2⟩
  exact ⟨rfl, ⟨v', h1⟩, Fl.of h h1 h2⟩
/-- what an argument's cells lie below -/
def Low (base : Nat) (ao : Option Addr) (E : Prop) : Prop := ∀ a, E → ao = some a → a.block < base
def argsT (A : List Int) : List Nat := A.flatMap fun x => uint 10 (fold x)
theorem argsT_length (A : List Int) : (argsT A).length ≤ A.length * 11 := by
  induction A with
  | nil => simp [argsT]
  | cons x A ih =>
    have := uint_length 10 (fold x)
    simp only [argsT, List.flatMap_cons, List.length_append, List.length_cons] at ih ⊢
    omega
theorem keysT_length (L : List K) : (L.flatMap keyBytes).length = L.length * 10 := by
  induction L with
  | nil => simp
  | cons x A ih => simp only [List.flatMap_cons, List.length_append, List.length_cons, ih, keyBytes_length]; omega

set_option maxRecDepth 100000 in
set_option maxHeartbeats 1000000 in
theorem putArgs_b (w : World) (base r : Nat) (T : List Nat) (ao : Option Addr) (n cap : Nat) (A : List Int) (h : Wr w base r T) (hA : NumsAt w ao A) (hlo : Low base ao (A.map iv ≠ [])) (hin : ∀ z ∈ A, In64 z) (hn : n = A.length) (hm : n ≤ 16) (hl : T.length ≤ 1000000) :
    Calls Tryz.prog 28 #[.pointer (some ⟨r, 0, none⟩), .slice ao n cap] w fun e w' => WPost w base r (T ++ argsN A) e w' := by
  have HW : Hid (Wr w base r T) := h
  have HA : Hid (NumsAt w ao A ∧ Low base ao (A.map iv ≠ []) ∧ n = A.length ∧ ∀ z ∈ A, In64 z) := ⟨hA, hlo, hn, hin⟩
  clear h hA hlo hin hn
  go_enter Tryz.func28, Tryz.ntmps28
  go_wp2_with fail
  refine (wUint_b w base r n T HW.out (by omega) (by omega)).mono ?_
  rintro e w1 ⟨rfl, h1, hb1⟩
  have HW1 : Hid (Wr w1 base r (T ++ uint 10 n)) := h1
  have HB1 : Hid (Fl base r w w1) := hb1
  have HT1 : Hid ((T ++ uint 10 n).length ≤ 1000011) := by
    have := uint_length 10 n
    rw [List.length_append]; simp only [Hid]; omega
  clear h1 hb1
  go_wp2_with fail
  go_loopw [13] (fun x wr => ∃ k : Nat, k ≤ n ∧ x = .int .i64 (k : Int) ∧ Hid (Wr wr base r (T ++ uint 10 n ++ argsT (A.take k))) ∧ Hid (Fl base r w wr)) (fun x _ => n - (intOf x).toNat)
  case atStart => exact ⟨0, Nat.zero_le _, rfl, by simpa [argsT] using HW1, HB1⟩
  case round =>
    clear HW1 HB1
    obtain ⟨k, hk, rfl, HWk, HBk⟩ := hrel
    by_cases hlt : k < n
    · have hlt' : k < A.length := by have := HA.out.2.2.1; omega
      obtain ⟨b, off, rfl, c1⟩ := NumsAt.get (HA.out.1.below HBk.out.bel HA.out.2.1) k hlt'
      have HIn : Hid (In64 (ad A k)) := HA.out.2.2.2 _ (ad_mem hlt')
      have HTk : Hid (argsT (A.take (k + 1)) = argsT (A.take k) ++ uint 10 (fold (ad A k))) := by rw [take_ad A k hlt']; simp [argsT, Hid]
      have HLk : Hid ((T ++ uint 10 n ++ argsT (A.take k)).length + 11 ≤ 140737488355328) := by
        have h1 := argsT_length (A.take k)
        have h2 := HT1.out
        rw [List.length_take] at h1
        rw [List.length_append]; simp only [Hid]; omega
      generalize ad A k = z at *
      go_wp2_with fail
      refine (wInt_b wr base r z _ HWk.out HIn.out HLk.out).mono ?_
      rintro e w2 ⟨rfl, h2, hb2⟩
      have HW2 : Hid (Wr w2 base r (T ++ uint 10 n ++ argsT (A.take (k + 1)))) := by rw [HTk.out, ← List.append_assoc]; exact h2
      have HB2 : Hid (Fl base r w w2) := HBk.out.trans hb2
      clear h2 hb2 HWk HBk c1
      go_wp2
      go_roundw
      case rel => exact ⟨k + 1, by omega, by go_num, HW2, HB2⟩
      case measure => simp [intOf]; omega
    · obtain rfl : k = n := by omega
      have HF : Hid (WPost w base r (T ++ argsN A) (.returned (.tuple #[])) wr) := by
        have h1 := HWk.out
        rw [List.take_of_length_le (by have := HA.out.2.2.1; omega), List.append_assoc] at h1
        refine ⟨rfl, ?_, HBk.out⟩
        unfold argsN
        rw [← HA.out.2.2.1]; exact h1
      clear HWk HBk
      go_wp2
      go_end0
      exact HF.out

set_option maxRecDepth 100000 in
set_option maxHeartbeats 1000000 in
theorem putKeys_b (w : World) (base r : Nat) (T : List Nat) (ao : Option Addr) (n cap : Nat) (A : List K) (h : Wr w base r T) (hA : KeysAt w ao A) (hlo : Low base ao (A ≠ [])) (hin : ∀ z ∈ A, KIn z) (hk : ∀ z ∈ A, isKey z = true) (hn : n = A.length) (hm : n ≤ 16) (hl : T.length ≤ 1000000) :
    Calls Tryz.prog 29 #[.pointer (some ⟨r, 0, none⟩), .slice ao n cap] w fun e w' => WPost w base r (T ++ setN A) e w' := by
  have HW : Hid (Wr w base r T) := h
  have HA : Hid (KeysAt w ao A ∧ Low base ao (A ≠ []) ∧ n = A.length ∧ (∀ z ∈ A, KIn z) ∧ ∀ z ∈ A, isKey z = true) := ⟨hA, hlo, hn, hin, hk⟩
  clear h hA hlo hin hn hk
  go_enter Tryz.func29, Tryz.ntmps29
  go_wp2_with fail
  refine (wUint_b w base r n T HW.out (by omega) (by omega)).mono ?_
  rintro e w1 ⟨rfl, h1, hb1⟩
  have HW1 : Hid (Wr w1 base r (T ++ uint 10 n)) := h1
  have HB1 : Hid (Fl base r w w1) := hb1
  have HT1 : Hid ((T ++ uint 10 n).length ≤ 1000011) := by
    have := uint_length 10 n
    rw [List.length_append]; simp only [Hid]; omega
  clear h1 hb1
  go_wp2_with fail
  go_loopw [15] (fun x wr => ∃ k : Nat, k ≤ n ∧ x = .int .i64 (k : Int) ∧ Hid (Wr wr base r (T ++ uint 10 n ++ (A.take k).flatMap keyBytes)) ∧ Hid (Fl base r w wr)) (fun x _ => n - (intOf x).toNat)
  case atStart => exact ⟨0, Nat.zero_le _, rfl, by simpa using HW1, HB1⟩
  case round =>
    clear HW1 HB1
    obtain ⟨k, hk, rfl, HWk, HBk⟩ := hrel
    by_cases hlt : k < n
    · have hlt' : k < A.length := by have := HA.out.2.2.1; omega
      obtain ⟨b, off, rfl, c1, c2⟩ := KeysAt.get (HA.out.1.below HBk.out.bel HA.out.2.1) k hlt'
      have HIn : Hid (KIn (kd A k)) := HA.out.2.2.2.1 _ (kd_mem hlt')
      have hky := HA.out.2.2.2.2 _ (kd_mem hlt')
      have HTk : Hid ((A.take (k + 1)).flatMap keyBytes = (A.take k).flatMap keyBytes ++ keyBytes (kd A k)) := by rw [take_kd A k hlt']; simp [Hid]
      have HLk : Hid ((T ++ uint 10 n ++ (A.take k).flatMap keyBytes).length + (keyBytes (kd A k)).length ≤ 140737488355328) := by
        have h1 := keysT_length (A.take k)
        have h2 := HT1.out
        rw [List.length_take] at h1
        rw [List.length_append, keyBytes_length]; simp only [Hid]; omega
      have HKb : Hid (∀ z ∈ keyBytes (kd A k), z < 256) := keyBytes_lt hky
      generalize kd A k = kk at *
      obtain ⟨t, s⟩ := kk
      simp only [isKey, Bool.and_eq_true, decide_eq_true_eq] at hky
      obtain ⟨q, rfl⟩ : ∃ q : Nat, t = (q : Int) := ⟨t.toNat, by omega⟩
      simp only at c1 c2
      have HBy : Hid (∀ W, Calls Tryz.prog 55 #[.agg #[.int .i64 (q : Int), .int .i64 s]] W fun e w' => ∃ B, e = .returned (.tuple #[.slice (some ⟨B, 0, none⟩) 10 10, .int .i64 0]) ∧ W.heap.size ≤ B ∧ w'.heap.size = B + 1 ∧ w'.heap[B]? = some (.cells (cellsU8 (keyBytes ((q : Int), s))) 146 (0, 0)) ∧ Grew W w') := fun W => bytes_key W q s (by omega) HIn.out.2
      have HG1 : Hid (Grew wr (wr.alloc (.cells #[.int .i64 (q : Int), .int .i64 s] 89))) := (Grew.refl _).alloc _
      go_wp2_with fail
      refine (HBy.out _).mono ?_
      rintro e w2 ⟨B, rfl, _, _, hrow, hg2⟩
      have HG2 : Hid (Grew wr w2) := HG1.out.trans hg2
      have HW2 : Hid (Wr w2 base r (T ++ uint 10 n ++ (A.take k).flatMap keyBytes)) := HWk.out.kept HG2.out.below
      have HBa : Hid (BytesAt w2 (some ⟨B, 0, none⟩) (keyBytes ((q : Int), s))) := ⟨HKb.out, .inr ⟨B, 0, rfl, fun j hj => by rw [Nat.zero_add]; exact row_cell hrow j hj⟩⟩
      have HB2 : Hid (Fl base r w w2) := HBk.out.grew HWk.out HG2.out.below
      clear hrow hg2 HG1 HG2 HBk HWk HBy c1 c2
      go_wp2_with fail
      refine (wRaw_b w2 base r _ (keyBytes ((q : Int), s)) (some ⟨B, 0, none⟩) 10 10 HW2.out (by rw [keyBytes_length]) HBa.out (fun e => by cases e) HLk.out).mono ?_
      rintro e w3 ⟨rfl, h3, hb3⟩
      have HW3 : Hid (Wr w3 base r (T ++ uint 10 n ++ (A.take (k + 1)).flatMap keyBytes)) := by rw [HTk.out, ← List.append_assoc]; exact h3
      have HB3 : Hid (Fl base r w w3) := HB2.out.trans hb3
      clear h3 hb3 HW2 HB2 HBa
      go_wp2
      go_roundw
      case rel => exact ⟨k + 1, by omega, by go_num, HW3, HB3⟩
      case measure => simp [intOf]; omega
    · obtain rfl : k = n := by omega
      have HF : Hid (WPost w base r (T ++ setN A) (.returned (.tuple #[])) wr) := by
        have h1 := HWk.out
        rw [List.take_of_length_le (by have := HA.out.2.2.1; omega), List.append_assoc] at h1
        refine ⟨rfl, ?_, HBk.out⟩
        unfold setN
        rw [← HA.out.2.2.1]; exact h1
      clear HWk HBk
      go_wp2
      go_end0
      exact HF.out
end Go.Proofs.YtcaibgbhebldmaaGreat.Kk
