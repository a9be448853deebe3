import Derived.Test.YtlilaicgmdbhcaaDoorJ12
import Derived.Test.YtlilaicgmdbhcaaDoorJ11
import Derived.Deep.DeepCutAuto
import Derived.Test.YtlilaicgmdbhcaaDoorJ05
import Derived.Test.YtlilaicgmdbhcaaDoorJ08
/-
  THE WALKS OF wellFormed, sound.
-/
namespace Go.Proofs.YtlilaicgmdbhcaaDoor.Kk
open Go.RowKit Go.Sort

/-- what a call that only grows the heap leaves -/
theorem grew_of {w w' : World} (h : ∃ q os, w' = grow (w.drewN q) os) : Grew w w' := h

theorem cell_new (w : World) (cs : Array Value) (T : TypeId) (j : Nat) (v : Value) (h : cs[j]? = some v) : (w.alloc (.cells cs T)).cell? ⟨w.heap.size, j, none⟩ = some v := by
  have := heap_alloc_new (w := w) (.cells cs T) _ rfl
  simp only [World.cell?, this]; exact h
set_option maxRecDepth 100000 in
set_option maxHeartbeats 1000000 in
theorem wellFormed_any (w : World) (x : Bx) (h : BxOK w x) :
    Calls Tryd.prog 39 #[bxv x] w fun e w' => e = .returned (.int .i64 (formN x.t)) ∧ Grew w w' := by
  have HO : Hid (BxOK w x) := h
  clear h
  obtain ⟨⟨proc, args, reads, writes⟩, aA, cA, aR, cR, aW, cW⟩ := x
  have HF : Hid (formN ⟨proc, args, reads, writes⟩ = if proc < 0 ∨ 64 ≤ proc then 61 else if 16 < args.length then 62 else if 16 < reads.length then 63 else if 16 < writes.length then 64 else if Rise reads ∧ Rise writes then 0 else 65) := rfl
  simp only [bxv]
  generalize formN ⟨proc, args, reads, writes⟩ = F at *
  have HG : Hid (Grew w (w.alloc (.cells #[.int .i64 proc, .slice aA args.length cA, .slice aR reads.length cR, .slice aW writes.length cW] 62))) := (Grew.refl _).alloc _
  have HR : Hid (∀ W, Grew w W → Calls Tryd.prog 55 #[.slice aR reads.length cR] W fun e w' => e = .returned (.bool (decide (Rise reads))) ∧ ∃ q os, w' = grow (W.drewN q) os) := fun W hg => rises_any W aR cR reads.length reads rfl (HO.out.reads.grew hg) (by have := HO.out.bigR; simp only at this; omega)
  have HW : Hid (∀ W, Grew w W → Calls Tryd.prog 55 #[.slice aW writes.length cW] W fun e w' => e = .returned (.bool (decide (Rise writes))) ∧ ∃ q os, w' = grow (W.drewN q) os) := fun W hg => rises_any W aW cW writes.length writes rfl (HO.out.writes.grew hg) (by have := HO.out.bigW; simp only at this; omega)
  by_cases h0 : proc < 0
  · have HE : Hid (F = 61) := by rw [HF.out, if_pos (.inl h0)]; rfl
    go_enter Tryd.func39, Tryd.ntmps39
    go_wp2
    go_ret
    exact ⟨by rw [HE.out]; rfl, HG.out⟩
  by_cases h1 : 64 ≤ proc
  · have HE : Hid (F = 61) := by rw [HF.out, if_pos (.inr h1)]; rfl
    go_enter Tryd.func39, Tryd.ntmps39
    go_wp2
    go_ret
    exact ⟨by rw [HE.out]; rfl, HG.out⟩
  by_cases h2 : 16 < args.length
  · have HE : Hid (F = 62) := by rw [HF.out, if_neg (by omega), if_pos h2]; rfl
    go_enter Tryd.func39, Tryd.ntmps39
    go_wp2
    go_ret
    exact ⟨by rw [HE.out]; rfl, HG.out⟩
  by_cases h3 : 16 < reads.length
  · have HE : Hid (F = 63) := by rw [HF.out, if_neg (by omega), if_neg h2, if_pos h3]; rfl
    go_enter Tryd.func39, Tryd.ntmps39
    go_wp2
    go_ret
    exact ⟨by rw [HE.out]; rfl, HG.out⟩
  by_cases h4 : 16 < writes.length
  · have HE : Hid (F = 64) := by rw [HF.out, if_neg (by omega), if_neg h2, if_neg h3, if_pos h4]; rfl
    go_enter Tryd.func39, Tryd.ntmps39
    go_wp2
    go_ret
    exact ⟨by rw [HE.out]; rfl, HG.out⟩
  have HE : Hid (F = if (decide (Rise reads) && decide (Rise writes)) = true then 0 else 65) := by
    rw [HF.out, if_neg (by omega), if_neg h2, if_neg h3, if_neg h4]
    by_cases r1 : Rise reads <;> by_cases r2 : Rise writes <;> simp [r1, r2, Hid]
  clear HF
  generalize decide (Rise reads) = b1 at *
  generalize decide (Rise writes) = b2 at *
  have HC : Hid (∀ W, Grew w W → W.cell? ⟨w.heap.size, 3, none⟩ = some (.slice aW writes.length cW) → True) := fun _ _ _ => trivial
  go_enter Tryd.func39, Tryd.ntmps39
  go_wp2_with fail
  refine (HR.out _ HG.out).mono ?_
  rintro e w1 ⟨rfl, hg⟩
  have HG1 : Hid (Grew w w1) := HG.out.trans hg
  have k3 : w1.cell? ⟨w.heap.size, 3, none⟩ = some (.slice aW writes.length cW) := Grew.cell hg (cell_new _ _ _ 3 _ rfl)
  clear hg HG HC HR
  cases b1
  · go_wp2
    go_ret
    exact ⟨by rw [HE.out]; rfl, HG1.out⟩
  · go_wp2_with fail
    refine (HW.out _ HG1.out).mono ?_
    rintro e w2 ⟨rfl, hg⟩
    have HG2 : Hid (Grew w w2) := HG1.out.trans hg
    clear hg HG1 HW k3
    cases b2
    all_goals
      go_wp2
      go_ret
      exact ⟨by rw [HE.out]; rfl, HG2.out⟩

set_option maxRecDepth 100000 in
set_option maxHeartbeats 1000000 in
theorem sound_any (w : World) (lo : Option Addr) (n lc : Nat) (Ps : List Pr) (x : Bx) (hl : ProcsAt w lo Ps) (hn : n = Ps.length) (h : BxOK w x) :
    Calls Tryd.prog 25 #[.slice lo n lc, bxv x] w fun e w' => e = .returned (.int .i64 (soundN Ps x.t)) ∧ Grew w w' := by
  have HO : Hid (BxOK w x) := h
  have HL : Hid (ProcsAt w lo Ps ∧ n = Ps.length) := ⟨hl, hn⟩
  have hp := h.pin
  clear h hl hn
  have HW : Hid (∀ W, Grew w W → Calls Tryd.prog 39 #[bxv x] W fun e w' => e = .returned (.int .i64 (formN x.t)) ∧ Grew W w') := fun W hg => wellFormed_any W x (HO.out.kept hg.below)
  obtain ⟨⟨proc, args, reads, writes⟩, aA, cA, aR, cR, aW, cW⟩ := x
  simp only [bxv] at *
  have HG : Hid (Grew w (w.alloc (.cells #[.int .i64 proc, .slice aA args.length cA, .slice aR reads.length cR, .slice aW writes.length cW] 62))) := (Grew.refl _).alloc _
  have HF : Hid (soundN Ps ⟨proc, args, reads, writes⟩ = if proc < 0 ∨ (n : Int) ≤ proc then 61 else
    if (args.length : Int) ≠ (pd Ps proc.toNat).p.args then 62 else if (reads.length : Int) ≠ (pd Ps proc.toNat).p.reads then 63 else if (writes.length : Int) ≠ (pd Ps proc.toNat).p.writes then 64 else formN ⟨proc, args, reads, writes⟩) := by rw [HL.out.2]; rfl
  generalize soundN Ps ⟨proc, args, reads, writes⟩ = F at *
  generalize formN ⟨proc, args, reads, writes⟩ = FN at *
  by_cases h0 : proc < 0
  · have HE : Hid (F = 61) := by rw [HF.out, if_pos (.inl h0)]; rfl
    go_enter Tryd.func25, Tryd.ntmps25
    go_wp2
    go_ret
    exact ⟨by rw [HE.out]; rfl, HG.out⟩
  by_cases h1 : (n : Int) ≤ proc
  · have HE : Hid (F = 61) := by rw [HF.out, if_pos (.inr h1)]; rfl
    go_enter Tryd.func25, Tryd.ntmps25
    go_wp2
    go_ret
    exact ⟨by rw [HE.out]; rfl, HG.out⟩
  obtain ⟨q, rfl⟩ : ∃ q : Nat, proc = (q : Int) := ⟨proc.toNat, by omega⟩
  have hq : q < n := by omega
  obtain ⟨b, off, rfl, c0, c1, c2, c3, c4, c5⟩ := HL.out.1.get q (by have := HL.out.2; omega)
  have HF2 : Hid (F = if (args.length : Int) ≠ (pd Ps q).p.args then 62 else if (reads.length : Int) ≠ (pd Ps q).p.reads then 63 else if (writes.length : Int) ≠ (pd Ps q).p.writes then 64 else FN) := by rw [HF.out, if_neg (by omega)]; rfl
  clear HF c0 h0 h1
  generalize pd Ps q = y at *
  obtain ⟨nm, ⟨pa, pr, pw, pl⟩, ya, yn, yc, yL⟩ := y
  simp only at c1 c2 c3 c4 c5 HF2
  have HB : Hid (∀ W, Grew w W → W.cell? ⟨b, off + q * 6 + 1, none⟩ = some (.int .i64 pa) ∧ W.cell? ⟨b, off + q * 6 + 2, none⟩ = some (.int .i64 pr) ∧ W.cell? ⟨b, off + q * 6 + 3, none⟩ = some (.int .i64 pw) ∧ W.cell? ⟨b, off + q * 6 + 4, none⟩ = some (.int .i64 pl) ∧ W.cell? ⟨b, off + q * 6 + 5, none⟩ = some (.slice ya yn yc)) := fun W hg => ⟨hg.cell c1, hg.cell c2, hg.cell c3, hg.cell c4, hg.cell c5⟩
  obtain ⟨d1, d2, d3, d4, d5⟩ := HB.out _ HG.out
  clear c1 c2 c3 c4 c5
  have HG2 : Hid (Grew w ((w.alloc (.cells #[.int .i64 (q : Int), .slice aA args.length cA, .slice aR reads.length cR, .slice aW writes.length cW] 62)).alloc (.cells #[.int .i64 pa, .int .i64 pr, .int .i64 pw, .int .i64 pl, .slice ya yn yc] 40))) := HG.out.alloc _
  go_enter Tryd.func25, Tryd.ntmps25
  by_cases e1 : (args.length : Int) = pa
  · by_cases e2 : (reads.length : Int) = pr
    · by_cases e3 : (writes.length : Int) = pw
      · have HE : Hid (F = FN) := by rw [HF2.out, if_neg (by simpa using e1), if_neg (by simpa using e2), if_neg (by simpa using e3)]; rfl
        go_wp2_with fail
        refine (HW.out _ HG2.out).mono ?_
        rintro e w1 ⟨rfl, hg⟩
        have HG3 : Hid (Grew w w1) := HG2.out.trans hg
        clear hg HW HF2 HB HG HG2
        go_wp2
        go_ret
        exact ⟨by rw [HE.out]; rfl, HG3.out⟩
      · have HE : Hid (F = 64) := by rw [HF2.out, if_neg (by simpa using e1), if_neg (by simpa using e2), if_pos e3]; rfl
        go_wp2
        go_ret
        exact ⟨by rw [HE.out]; rfl, HG2.out⟩
    · have HE : Hid (F = 63) := by rw [HF2.out, if_neg (by simpa using e1), if_pos e2]; rfl
      go_wp2
      go_ret
      exact ⟨by rw [HE.out]; rfl, HG2.out⟩
  · have HE : Hid (F = 62) := by rw [HF2.out, if_pos e1]; rfl
    go_wp2
    go_ret
    exact ⟨by rw [HE.out]; rfl, HG2.out⟩
end Go.Proofs.YtlilaicgmdbhcaaDoor.Kk
/-
  THE WALKS OF each, Check.
-/
namespace Go.Proofs.YtlilaicgmdbhcaaDoor.Kk
open Go.RowKit Go.Sort

set_option maxRecDepth 100000 in
set_option maxHeartbeats 1000000 in
theorem eachS_any (w : World) (ao : Option Addr) (n cap : Nat) (Bs : List Bx) (f : Tp → Int) (B : Nat) (h : BatAt w ao Bs) (hn : n = Bs.length) (hm : n ≤ 140737488355328)
    (hl : ∀ i, i < Bs.length → ∀ W, Grew w W → Calls Tryd.prog 24 #[bxv (bd Bs i), .pointer (some ⟨B, 0, none⟩)] W fun e w' => e = .returned (.int .i64 (f (bd Bs i).t)) ∧ Grew W w') :
    Calls Tryd.prog 23 #[.slice ao n cap, .func (.func 24) #[] #[.pointer (some ⟨B, 0, none⟩)]] w fun e w' => e = .returned (.tuple #[.int .i64 ((eachN f (Bs.map Bx.t)).1 : Int), .int .i64 (eachN f (Bs.map Bx.t)).2]) ∧ Grew w w' := by
  have H : Hid (BatAt w ao Bs) := h
  have HN : Hid (n = Bs.length) := hn
  have HL : Hid (∀ i, i < Bs.length → ∀ W, Grew w W → Calls Tryd.prog 24 #[bxv (bd Bs i), .pointer (some ⟨B, 0, none⟩)] W fun e w' => e = .returned (.int .i64 (f (bd Bs i).t)) ∧ Grew W w') := hl
  have HT : Hid ((Bs.map Bx.t).length = n) := by rw [hn]; simp [Hid]
  clear h hn hl
  by_cases h64 : 64 < n
  · have HE : Hid (eachN f (Bs.map Bx.t) = (0, 60)) := eachN_big (by rw [HT.out]; exact h64)
    have h64i : (64 : Int) < n := by omega
    go_enter Tryd.func23, Tryd.ntmps23
    go_wp2
    go_ret2
    exact ⟨by rw [HE.out]; rfl, Grew.refl _⟩
  have h64i : ¬ (64 : Int) < n := by omega
  go_enter Tryd.func23, Tryd.ntmps23
  go_wp2_with fail
  go_loopw [14] (fun x wr => ∃ k : Nat, k ≤ n ∧ x = .int .i64 (k : Int) ∧ Hid (Grew w wr) ∧ Hid (∀ i, i < k → f (td (Bs.map Bx.t) i) = 0)) (fun x _ => n - (intOf x).toNat)
  case atStart => exact ⟨0, Nat.zero_le _, rfl, Grew.refl _, fun i hi => by omega⟩
  case round =>
    obtain ⟨k, hk, rfl, HG, HZ⟩ := hrel
    by_cases hlt : k < n
    · have hlt' : k < Bs.length := by have := HN.out; omega
      have HTd : Hid (td (Bs.map Bx.t) k = (bd Bs k).t) := td_map hlt'
      obtain ⟨b, off, rfl, c0, c1, c2, c3⟩ := TxsAt.get (H.out.at_.kept HG.out.below) k hlt'
      have HC : Hid (∀ W, Grew w W → Calls Tryd.prog 24 #[bxv (bd Bs k), .pointer (some ⟨B, 0, none⟩)] W fun e w' => e = .returned (.int .i64 (f (bd Bs k).t)) ∧ Grew W w') := HL.out k hlt'
      generalize bd Bs k = x at *
      obtain ⟨⟨proc, args, reads, writes⟩, aA, cA, aR, cR, aW, cW⟩ := x
      simp only [bxv] at c0 c1 c2 c3 HC HTd
      have HG1 : Hid (Grew w (wr.alloc (.cells #[.int .i64 proc, .slice aA args.length cA, .slice aR reads.length cR, .slice aW writes.length cW] 62))) := HG.out.alloc _
      obtain ⟨r, hr⟩ : ∃ r, r = f ⟨proc, args, reads, writes⟩ := ⟨_, rfl⟩
      rw [← hr] at HC
      have HR : Hid (f (td (Bs.map Bx.t) k) = r) := by rw [HTd.out, hr]; rfl
      clear hr HTd
      go_wp2_with fail
      refine (HC.out _ HG1.out).mono ?_
      rintro e w2 ⟨rfl, hg⟩
      have HG2 : Hid (Grew w w2) := HG1.out.trans hg
      clear hg HC HG1 HG c0 c1 c2 c3
      by_cases h0 : r = 0
      · subst h0
        go_wp2
        go_roundw
        case rel => exact ⟨k + 1, by omega, by go_num, HG2, fun i hi => by
          by_cases e : i = k
          · subst e; exact HR.out
          · exact HZ.out i (by omega)⟩
        case measure => simp [intOf]; omega
      · have h0' : ¬ r = 0 := h0
        have HE : Hid (eachN f (Bs.map Bx.t) = (k, r)) := by
          have := eachN_stop (f := f) (Ts := Bs.map Bx.t) (k := k) (by rw [HT.out]; omega) HZ.out (by rw [HR.out]; exact h0) (by rw [HT.out]; exact hlt)
          rw [HR.out] at this; exact this
        go_wp2
        go_ret2
        exact ⟨by rw [HE.out]; rfl, HG2.out⟩
    · obtain rfl : k = n := by omega
      have HE : Hid (eachN f (Bs.map Bx.t) = (0, 0)) := eachN_zero (by rw [HT.out]; omega) (by rw [HT.out]; exact HZ.out)
      go_wp2
      go_ret2
      exact ⟨by rw [HE.out]; rfl, HG.out⟩
set_option maxRecDepth 100000 in
set_option maxHeartbeats 1000000 in
theorem eachF_any (w : World) (ao : Option Addr) (n cap : Nat) (Bs : List Bx) (f : Tp → Int) (h : BatAt w ao Bs) (hn : n = Bs.length) (hm : n ≤ 140737488355328)
    (hl : ∀ i, i < Bs.length → ∀ W, Grew w W → Calls Tryd.prog 39 #[bxv (bd Bs i)] W fun e w' => e = .returned (.int .i64 (f (bd Bs i).t)) ∧ Grew W w') :
    Calls Tryd.prog 23 #[.slice ao n cap, .func (.func 39) #[] #[]] w fun e w' => e = .returned (.tuple #[.int .i64 ((eachN f (Bs.map Bx.t)).1 : Int), .int .i64 (eachN f (Bs.map Bx.t)).2]) ∧ Grew w w' := by
  have H : Hid (BatAt w ao Bs) := h
  have HN : Hid (n = Bs.length) := hn
  have HL : Hid (∀ i, i < Bs.length → ∀ W, Grew w W → Calls Tryd.prog 39 #[bxv (bd Bs i)] W fun e w' => e = .returned (.int .i64 (f (bd Bs i).t)) ∧ Grew W w') := hl
  have HT : Hid ((Bs.map Bx.t).length = n) := by rw [hn]; simp [Hid]
  clear h hn hl
  by_cases h64 : 64 < n
  · have HE : Hid (eachN f (Bs.map Bx.t) = (0, 60)) := eachN_big (by rw [HT.out]; exact h64)
    have h64i : (64 : Int) < n := by omega
    go_enter Tryd.func23, Tryd.ntmps23
    go_wp2
    go_ret2
    exact ⟨by rw [HE.out]; rfl, Grew.refl _⟩
  have h64i : ¬ (64 : Int) < n := by omega
  go_enter Tryd.func23, Tryd.ntmps23
  go_wp2_with fail
  go_loopw [14] (fun x wr => ∃ k : Nat, k ≤ n ∧ x = .int .i64 (k : Int) ∧ Hid (Grew w wr) ∧ Hid (∀ i, i < k → f (td (Bs.map Bx.t) i) = 0)) (fun x _ => n - (intOf x).toNat)
  case atStart => exact ⟨0, Nat.zero_le _, rfl, Grew.refl _, fun i hi => by omega⟩
  case round =>
    obtain ⟨k, hk, rfl, HG, HZ⟩ := hrel
    by_cases hlt : k < n
    · have hlt' : k < Bs.length := by have := HN.out; omega
      have HTd : Hid (td (Bs.map Bx.t) k = (bd Bs k).t) := td_map hlt'
      obtain ⟨b, off, rfl, c0, c1, c2, c3⟩ := TxsAt.get (H.out.at_.kept HG.out.below) k hlt'
      have HC : Hid (∀ W, Grew w W → Calls Tryd.prog 39 #[bxv (bd Bs k)] W fun e w' => e = .returned (.int .i64 (f (bd Bs k).t)) ∧ Grew W w') := HL.out k hlt'
      generalize bd Bs k = x at *
      obtain ⟨⟨proc, args, reads, writes⟩, aA, cA, aR, cR, aW, cW⟩ := x
      simp only [bxv] at c0 c1 c2 c3 HC HTd
      have HG1 : Hid (Grew w (wr.alloc (.cells #[.int .i64 proc, .slice aA args.length cA, .slice aR reads.length cR, .slice aW writes.length cW] 62))) := HG.out.alloc _
      obtain ⟨r, hr⟩ : ∃ r, r = f ⟨proc, args, reads, writes⟩ := ⟨_, rfl⟩
      rw [← hr] at HC
      have HR : Hid (f (td (Bs.map Bx.t) k) = r) := by rw [HTd.out, hr]; rfl
      clear hr HTd
      go_wp2_with fail
      refine (HC.out _ HG1.out).mono ?_
      rintro e w2 ⟨rfl, hg⟩
      have HG2 : Hid (Grew w w2) := HG1.out.trans hg
      clear hg HC HG1 HG c0 c1 c2 c3
      by_cases h0 : r = 0
      · subst h0
        go_wp2
        go_roundw
        case rel => exact ⟨k + 1, by omega, by go_num, HG2, fun i hi => by
          by_cases e : i = k
          · subst e; exact HR.out
          · exact HZ.out i (by omega)⟩
        case measure => simp [intOf]; omega
      · have h0' : ¬ r = 0 := h0
        have HE : Hid (eachN f (Bs.map Bx.t) = (k, r)) := by
          have := eachN_stop (f := f) (Ts := Bs.map Bx.t) (k := k) (by rw [HT.out]; omega) HZ.out (by rw [HR.out]; exact h0) (by rw [HT.out]; exact hlt)
          rw [HR.out] at this; exact this
        go_wp2
        go_ret2
        exact ⟨by rw [HE.out]; rfl, HG2.out⟩
    · obtain rfl : k = n := by omega
      have HE : Hid (eachN f (Bs.map Bx.t) = (0, 0)) := eachN_zero (by rw [HT.out]; omega) (by rw [HT.out]; exact HZ.out)
      go_wp2
      go_ret2
      exact ⟨by rw [HE.out]; rfl, HG.out⟩
set_option maxRecDepth 100000 in
set_option maxHeartbeats 1000000 in
theorem check1_any (w : World) (B : Nat) (lo : Option Addr) (n lc : Nat) (Ps : List Pr) (x : Bx) (hb : w.cell? ⟨B, 0, none⟩ = some (.slice lo n lc)) (hl : ProcsAt w lo Ps) (hn : n = Ps.length) (h : BxOK w x) :
    Calls Tryd.prog 24 #[bxv x, .pointer (some ⟨B, 0, none⟩)] w fun e w' => e = .returned (.int .i64 (soundN Ps x.t)) ∧ Grew w w' := by
  have HG : Hid (Grew w (w.alloc (.cells #[.int .i64 x.t.proc, .slice x.aA x.t.args.length x.cA, .slice x.aR x.t.reads.length x.cR, .slice x.aW x.t.writes.length x.cW] 62))) := (Grew.refl _).alloc _
  have HC : Hid (∀ W, Grew w W → Calls Tryd.prog 25 #[.slice lo n lc, bxv x] W fun e w' => e = .returned (.int .i64 (soundN Ps x.t)) ∧ Grew W w') := fun W hg => sound_any W lo n lc Ps x (hl.grew hg) hn (h.kept hg.below)
  clear hl hn h
  have hb' : (w.alloc (.cells #[.int .i64 x.t.proc, .slice x.aA x.t.args.length x.cA, .slice x.aR x.t.reads.length x.cR, .slice x.aW x.t.writes.length x.cW] 62)).cell? ⟨B, 0, none⟩ = some (.slice lo n lc) := HG.out.cell hb
  clear hb
  generalize soundN Ps x.t = F at *
  obtain ⟨⟨proc, args, reads, writes⟩, aA, cA, aR, cR, aW, cW⟩ := x
  simp only [bxv] at *
  go_enter Tryd.func24, Tryd.ntmps24
  go_wp2_with fail
  refine (HC.out _ HG.out).mono ?_
  rintro e w2 ⟨rfl, hg⟩
  have HG2 : Hid (Grew w w2) := HG.out.trans hg
  clear hg HC HG hb'
  go_wp2
  go_ret
  exact ⟨rfl, HG2.out⟩

set_option maxRecDepth 100000 in
set_option maxHeartbeats 1000000 in
theorem check_b (w : World) (lo ao : Option Addr) (n lc m cap : Nat) (Ps : List Pr) (Bs : List Bx) (hl : ProcsAt w lo Ps) (hn : n = Ps.length) (h : BatAt w ao Bs) (hn' : m = Bs.length) (hm : m ≤ 140737488355328) :
    Calls Tryd.prog 11 #[.slice lo n lc, .slice ao m cap] w fun e w' => e = .returned (.tuple #[.int .i64 ((eachN (soundN Ps) (Bs.map Bx.t)).1 : Int), .int .i64 (eachN (soundN Ps) (Bs.map Bx.t)).2]) ∧ Grew w w' := by
  have hmf : ∀ (fn : Fn) (first cap : Array Value) (w : World), (Instr.makeFunc fn first cap).run Tryd.prog w = .ok (.func fn first cap) w := fun _ _ _ _ => rfl
  have HG : Hid (Grew w (w.alloc (.cells #[.slice lo n lc] 22))) := (Grew.refl _).alloc _
  have HB : Hid ((w.alloc (.cells #[.slice lo n lc] 22)).cell? ⟨w.heap.size, 0, none⟩ = some (.slice lo n lc)) := cell_new _ _ _ 0 _ rfl
  have HC : Hid (Calls Tryd.prog 23 #[.slice ao m cap, .func (.func 24) #[] #[.pointer (some ⟨w.heap.size, 0, none⟩)]] (w.alloc (.cells #[.slice lo n lc] 22)) fun e w' => e = .returned (.tuple #[.int .i64 ((eachN (soundN Ps) (Bs.map Bx.t)).1 : Int), .int .i64 (eachN (soundN Ps) (Bs.map Bx.t)).2]) ∧ Grew (w.alloc (.cells #[.slice lo n lc] 22)) w') :=
    eachS_any _ ao m cap Bs (soundN Ps) w.heap.size (h.kept HG.out.below) hn' hm (fun i hi W hg => check1_any W w.heap.size lo n lc Ps _ (hg.cell HB.out) (hl.grew (HG.out.trans hg)) hn ((h.lst i hi).kept (HG.out.trans hg).below))
  clear hl hn h hn' HB
  generalize eachN (soundN Ps) (Bs.map Bx.t) = E at *
  go_enter Tryd.func11, Tryd.ntmps11
  go_wp2_with fail
  refine HC.out.mono ?_
  rintro e w2 ⟨rfl, hg⟩
  have HG2 : Hid (Grew w w2) := HG.out.trans hg
  clear hg HC HG
  go_wp2
  go_ret2
  exact ⟨rfl, HG2.out⟩
end Go.Proofs.YtlilaicgmdbhcaaDoor.Kk
/-
  THE WALKS OF putArgs, putKeys, Encode.
-/
namespace Go.Proofs.YtlilaicgmdbhcaaDoor.Kk
open Go.RowKit Go.Sort

/-- block k is not the Writer's -/
def Free (W : World) (r k : Nat) : Prop := k < W.heap.size ∧ k ≠ r ∧ ∀ v, W.cell? ⟨r, 0, none⟩ = some v → v.ownBlock ≠ some k
/-- what stays while a Writer is written -/
structure Fl (base r : Nat) (w w' : World) : Prop where
  bel : Below base w w'
  fre : ∀ k, Free w r k → w'.heap[k]? = w.heap[k]? ∧ Free w' r k
theorem Fl.trans {base r : Nat} {w w1 w2 : World} (h : Fl base r w w1) (k : Fl base r w1 w2) : Fl base r w w2 :=
  ⟨h.bel.trans k.bel, fun j hj => ⟨(k.fre j (h.fre j hj).2).1.trans (h.fre j hj).1, (k.fre j (h.fre j hj).2).2⟩⟩
theorem Fl.refl (base r : Nat) (w : World) : Fl base r w w := ⟨Below.refl _ _, fun _ h => ⟨rfl, h⟩⟩
/-- what an argument's cells lie below -/
def Low (base : Nat) (ao : Option Addr) (E : Prop) : Prop := ∀ a, E → ao = some a → a.block < base
def argsT (A : List Int) : List Nat := A.flatMap fun x => uint 10 (fold x)
theorem argsT_length (A : List Int) : (argsT A).length ≤ A.length * 11 := by
  induction A with
  | nil => simp [argsT]
  | cons x A ih =>
    have := uint_length 10 (fold x)
    simp only [argsT, List.flatMap_cons, List.length_append, List.length_cons] at ih ⊢
    omega
theorem keysT_length (L : List K) : (L.flatMap keyBytes).length = L.length * 10 := by
  induction L with
  | nil => simp
  | cons x A ih => simp only [List.flatMap_cons, List.length_append, List.length_cons, ih, keyBytes_length]; omega

end Go.Proofs.YtlilaicgmdbhcaaDoor.Kk
