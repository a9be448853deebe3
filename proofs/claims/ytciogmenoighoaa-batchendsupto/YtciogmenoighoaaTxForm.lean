/-
  THE WALKS OF wellFormed, sound.
-/
import Derived.Test.YtciogmenoighoaaTxMem
import Derived.Test.YtciogmenoighoaaQKRises
import Derived.Deep.DeepCutAuto
namespace Go.Proofs.Ytciogmenoighoaa.Kk
open Go.RowKit Go.Sort

/-- what a call that only grows the heap leaves -/
theorem grew_of {w w' : World} (h : ∃ q os, w' = grow (w.drewN q) os) : Grew w w' := h

theorem cell_new (w : World) (cs : Array Value) (T : TypeId) (j : Nat) (v : Value) (h : cs[j]? = some v) : (w.alloc (.cells cs T)).cell? ⟨w.heap.size, j, none⟩ = some v := by
  have := heap_alloc_new (w := w) (.cells cs T) _ rfl
  simp only [World.cell?, this]; exact h
set_option maxRecDepth 100000 in
set_option maxHeartbeats 1000000 in
theorem wellFormed_any (w : World) (x : Bx) (h : BxOK w x) :
    Calls Try.prog 29 #[bxv x] w fun e w' => e = .returned (.int .i64 (formN x.t)) ∧ Grew w w' := by
  have HO : Hid (BxOK w x) := h
  clear h
  obtain ⟨⟨proc, args, reads, writes⟩, aA, cA, aR, cR, aW, cW⟩ := x
  have HF : Hid (formN ⟨proc, args, reads, writes⟩ = if proc < 0 ∨ 64 ≤ proc then 61 else if 16 < args.length then 62 else if 16 < reads.length then 63 else if 16 < writes.length then 64 else if Rise reads ∧ Rise writes then 0 else 65) := rfl
  simp only [bxv]
  generalize formN ⟨proc, args, reads, writes⟩ = F at *
  have HG : Hid (Grew w (w.alloc (.cells #[.int .i64 proc, .slice aA args.length cA, .slice aR reads.length cR, .slice aW writes.length cW] 58))) := (Grew.refl _).alloc _
  have HR : Hid (∀ W, Grew w W → Calls Try.prog 54 #[.slice aR reads.length cR] W fun e w' => e = .returned (.bool (decide (Rise reads))) ∧ ∃ q os, w' = grow (W.drewN q) os) := fun W hg => rises_any W aR cR reads.length reads rfl (HO.out.reads.grew hg) (by have := HO.out.bigR; simp only at this; omega)
  have HW : Hid (∀ W, Grew w W → Calls Try.prog 54 #[.slice aW writes.length cW] W fun e w' => e = .returned (.bool (decide (Rise writes))) ∧ ∃ q os, w' = grow (W.drewN q) os) := fun W hg => rises_any W aW cW writes.length writes rfl (HO.out.writes.grew hg) (by have := HO.out.bigW; simp only at this; omega)
  by_cases h0 : proc < 0
  · have HE : Hid (F = 61) := by rw [HF.out, if_pos (.inl h0)]; rfl
    go_enter Try.func29, Try.ntmps29
    go_wp2
    go_ret
    exact ⟨by rw [HE.out]; rfl, HG.out⟩
  by_cases h1 : 64 ≤ proc
  · have HE : Hid (F = 61) := by rw [HF.out, if_pos (.inr h1)]; rfl
    go_enter Try.func29, Try.ntmps29
    go_wp2
    go_ret
    exact ⟨by rw [HE.out]; rfl, HG.out⟩
  by_cases h2 : 16 < args.length
  · have HE : Hid (F = 62) := by rw [HF.out, if_neg (by omega), if_pos h2]; rfl
    go_enter Try.func29, Try.ntmps29
    go_wp2
    go_ret
    exact ⟨by rw [HE.out]; rfl, HG.out⟩
  by_cases h3 : 16 < reads.length
  · have HE : Hid (F = 63) := by rw [HF.out, if_neg (by omega), if_neg h2, if_pos h3]; rfl
    go_enter Try.func29, Try.ntmps29
    go_wp2
    go_ret
    exact ⟨by rw [HE.out]; rfl, HG.out⟩
  by_cases h4 : 16 < writes.length
  · have HE : Hid (F = 64) := by rw [HF.out, if_neg (by omega), if_neg h2, if_neg h3, if_pos h4]; rfl
    go_enter Try.func29, Try.ntmps29
    go_wp2
    go_ret
    exact ⟨by rw [HE.out]; rfl, HG.out⟩
  have HE : Hid (F = if (decide (Rise reads) && decide (Rise writes)) = true then 0 else 65) := by
    rw [HF.out, if_neg (by omega), if_neg h2, if_neg h3, if_neg h4]
    by_cases r1 : Rise reads <;> by_cases r2 : Rise writes <;> simp [r1, r2, Hid]
  clear HF
  generalize decide (Rise reads) = b1 at *
  generalize decide (Rise writes) = b2 at *
  have HC : Hid (∀ W, Grew w W → W.cell? ⟨w.heap.size, 3, none⟩ = some (.slice aW writes.length cW) → True) := fun _ _ _ => trivial
  go_enter Try.func29, Try.ntmps29
  go_wp2_with fail
  refine (HR.out _ HG.out).mono ?_
  rintro e w1 ⟨rfl, hg⟩
  have HG1 : Hid (Grew w w1) := HG.out.trans hg
  have k3 : w1.cell? ⟨w.heap.size, 3, none⟩ = some (.slice aW writes.length cW) := Grew.cell hg (cell_new _ _ _ 3 _ rfl)
  clear hg HG HC HR
  cases b1
  · go_wp2
    go_ret
    exact ⟨by rw [HE.out]; rfl, HG1.out⟩
  · go_wp2_with fail
    refine (HW.out _ HG1.out).mono ?_
    rintro e w2 ⟨rfl, hg⟩
    have HG2 : Hid (Grew w w2) := HG1.out.trans hg
    clear hg HG1 HW k3
    cases b2
    all_goals
      go_wp2
      go_ret
      exact ⟨by rw [HE.out]; rfl, HG2.out⟩

set_option maxRecDepth 100000 in
set_option maxHeartbeats 1000000 in
theorem sound_any (w : World) (lo : Option Addr) (n lc : Nat) (Ps : List Pr) (x : Bx) (hl : ProcsAt w lo Ps) (hn : n = Ps.length) (h : BxOK w x) :
    Calls Try.prog 90 #[.slice lo n lc, bxv x] w fun e w' => e = .returned (.int .i64 (soundN Ps x.t)) ∧ Grew w w' := by
  have HO : Hid (BxOK w x) := h
  have HL : Hid (ProcsAt w lo Ps ∧ n = Ps.length) := ⟨hl, hn⟩
  have hp := h.pin
  clear h hl hn
  have HW : Hid (∀ W, Grew w W → Calls Try.prog 29 #[bxv x] W fun e w' => e = .returned (.int .i64 (formN x.t)) ∧ Grew W w') := fun W hg => wellFormed_any W x (HO.out.kept hg.below)
  obtain ⟨⟨proc, args, reads, writes⟩, aA, cA, aR, cR, aW, cW⟩ := x
  simp only [bxv] at *
  have HG : Hid (Grew w (w.alloc (.cells #[.int .i64 proc, .slice aA args.length cA, .slice aR reads.length cR, .slice aW writes.length cW] 58))) := (Grew.refl _).alloc _
  have HF : Hid (soundN Ps ⟨proc, args, reads, writes⟩ = if proc < 0 ∨ (n : Int) ≤ proc then 61 else
    if (args.length : Int) ≠ (pd Ps proc.toNat).p.args then 62 else if (reads.length : Int) ≠ (pd Ps proc.toNat).p.reads then 63 else if (writes.length : Int) ≠ (pd Ps proc.toNat).p.writes then 64 else formN ⟨proc, args, reads, writes⟩) := by rw [HL.out.2]; rfl
  generalize soundN Ps ⟨proc, args, reads, writes⟩ = F at *
  generalize formN ⟨proc, args, reads, writes⟩ = FN at *
  by_cases h0 : proc < 0
  · have HE : Hid (F = 61) := by rw [HF.out, if_pos (.inl h0)]; rfl
    go_enter Try.func90, Try.ntmps90
    go_wp2
    go_ret
    exact ⟨by rw [HE.out]; rfl, HG.out⟩
  by_cases h1 : (n : Int) ≤ proc
  · have HE : Hid (F = 61) := by rw [HF.out, if_pos (.inr h1)]; rfl
    go_enter Try.func90, Try.ntmps90
    go_wp2
    go_ret
    exact ⟨by rw [HE.out]; rfl, HG.out⟩
  obtain ⟨q, rfl⟩ : ∃ q : Nat, proc = (q : Int) := ⟨proc.toNat, by omega⟩
  have hq : q < n := by omega
  obtain ⟨b, off, rfl, c0, c1, c2, c3, c4, c5⟩ := HL.out.1.get q (by have := HL.out.2; omega)
  have HF2 : Hid (F = if (args.length : Int) ≠ (pd Ps q).p.args then 62 else if (reads.length : Int) ≠ (pd Ps q).p.reads then 63 else if (writes.length : Int) ≠ (pd Ps q).p.writes then 64 else FN) := by rw [HF.out, if_neg (by omega)]; rfl
  clear HF c0 h0 h1
  generalize pd Ps q = y at *
  obtain ⟨nm, ⟨pa, pr, pw, pl⟩, ya, yn, yc, yL⟩ := y
  simp only at c1 c2 c3 c4 c5 HF2
  have HB : Hid (∀ W, Grew w W → W.cell? ⟨b, off + q * 6 + 1, none⟩ = some (.int .i64 pa) ∧ W.cell? ⟨b, off + q * 6 + 2, none⟩ = some (.int .i64 pr) ∧ W.cell? ⟨b, off + q * 6 + 3, none⟩ = some (.int .i64 pw) ∧ W.cell? ⟨b, off + q * 6 + 4, none⟩ = some (.int .i64 pl) ∧ W.cell? ⟨b, off + q * 6 + 5, none⟩ = some (.slice ya yn yc)) := fun W hg => ⟨hg.cell c1, hg.cell c2, hg.cell c3, hg.cell c4, hg.cell c5⟩
  obtain ⟨d1, d2, d3, d4, d5⟩ := HB.out _ HG.out
  clear c1 c2 c3 c4 c5
  have HG2 : Hid (Grew w ((w.alloc (.cells #[.int .i64 (q : Int), .slice aA args.length cA, .slice aR reads.length cR, .slice aW writes.length cW] 58)).alloc (.cells #[.int .i64 pa, .int .i64 pr, .int .i64 pw, .int .i64 pl, .slice ya yn yc] 123))) := HG.out.alloc _
  go_enter Try.func90, Try.ntmps90
  by_cases e1 : (args.length : Int) = pa
  · by_cases e2 : (reads.length : Int) = pr
    · by_cases e3 : (writes.length : Int) = pw
      · have HE : Hid (F = FN) := by rw [HF2.out, if_neg (by simpa using e1), if_neg (by simpa using e2), if_neg (by simpa using e3)]; rfl
        go_wp2_with fail
        refine (HW.out _ HG2.out).mono ?_
        rintro e w1 ⟨rfl, hg⟩
        have HG3 : Hid (Grew w w1) := HG2.out.trans hg
        clear hg HW HF2 HB HG HG2
        go_wp2
        go_ret
        exact ⟨by rw [HE.out]; rfl, HG3.out⟩
      · have HE : Hid (F = 64) := by rw [HF2.out, if_neg (by simpa using e1), if_neg (by simpa using e2), if_pos e3]; rfl
        go_wp2
        go_ret
        exact ⟨by rw [HE.out]; rfl, HG2.out⟩
    · have HE : Hid (F = 63) := by rw [HF2.out, if_neg (by simpa using e1), if_pos e2]; rfl
      go_wp2
      go_ret
      exact ⟨by rw [HE.out]; rfl, HG2.out⟩
  · have HE : Hid (F = 62) := by rw [HF2.out, if_pos e1]; rfl
    go_wp2
    go_ret
    exact ⟨by rw [HE.out]; rfl, HG2.out⟩
end Go.Proofs.Ytciogmenoighoaa.Kk
