import Derived.Test.YtlilaicgmdbhcaaJ11
import Derived.Test.YtlilaicgmdbhcaaJ10
import Derived.Deep.DeepCutAuto
import Derived.Test.YtlilaicgmdbhcaaJ01
/-
  THE WALKS OF wellFormed, sound.
-/
namespace Go.Proofs.Ytlilaicgmdbhcaa.Kk
open Go.RowKit Go.Sort

/-- what a call that only grows the heap leaves -/
theorem grew_of {w w' : World} (h : ∃ q os, w' = grow (w.drewN q) os) : Grew w w' := h

theorem cell_new (w : World) (cs : Array Value) (T : TypeId) (j : Nat) (v : Value) (h : cs[j]? = some v) : (w.alloc (.cells cs T)).cell? ⟨w.heap.size, j, none⟩ = some v := by
  have := heap_alloc_new (w := w) (.cells cs T) _ rfl
  simp only [World.cell?, this]; exact h
set_option maxRecDepth 100000 in
set_option maxHeartbeats 1000000 in
theorem wellFormed_any (w : World) (x : Bx) (h : BxOK w x) :
    Calls Try.prog 27 #[bxv x] w fun e w' => e = .returned (.int .i64 (formN x.t)) ∧ Grew w w' := by
  have HO : Hid (BxOK w x) := h
  clear h
  obtain ⟨⟨proc, args, reads, writes⟩, aA, cA, aR, cR, aW, cW⟩ := x
  have HF : Hid (formN ⟨proc, args, reads, writes⟩ = if proc < 0 ∨ 64 ≤ proc then 61 else if 16 < args.length then 62 else if 16 < reads.length then 63 else if 16 < writes.length then 64 else if Rise reads ∧ Rise writes then 0 else 65) := rfl
  simp only [bxv]
  generalize formN ⟨proc, args, reads, writes⟩ = F at *
  have HG : Hid (Grew w (w.alloc (.cells #[.int .i64 proc, .slice aA args.length cA, .slice aR reads.length cR, .slice aW writes.length cW] 57))) := (Grew.refl _).alloc _
  have HR : Hid (∀ W, Grew w W → Calls Try.prog 50 #[.slice aR reads.length cR] W fun e w' => e = .returned (.bool (decide (Rise reads))) ∧ ∃ q os, w' = grow (W.drewN q) os) := fun W hg => rises_any W aR cR reads.length reads rfl (HO.out.reads.grew hg) (by have := HO.out.bigR; simp only at this; omega)
  have HW : Hid (∀ W, Grew w W → Calls Try.prog 50 #[.slice aW writes.length cW] W fun e w' => e = .returned (.bool (decide (Rise writes))) ∧ ∃ q os, w' = grow (W.drewN q) os) := fun W hg => rises_any W aW cW writes.length writes rfl (HO.out.writes.grew hg) (by have := HO.out.bigW; simp only at this; omega)
  by_cases h0 : proc < 0
  · have HE : Hid (F = 61) := by rw [HF.out, if_pos (.inl h0)]; rfl
    go_enter Try.func27, Try.ntmps27
    go_wp2
    go_ret
    exact ⟨by rw [HE.out]; rfl, HG.out⟩
  by_cases h1 : 64 ≤ proc
  · have HE : Hid (F = 61) := by rw [HF.out, if_pos (.inr h1)]; rfl
    go_enter Try.func27, Try.ntmps27
    go_wp2
    go_ret
    exact ⟨by rw [HE.out]; rfl, HG.out⟩
  by_cases h2 : 16 < args.length
  · have HE : Hid (F = 62) := by rw [HF.out, if_neg (by omega), if_pos h2]; rfl
    go_enter Try.func27, Try.ntmps27
    go_wp2
    go_ret
    exact ⟨by rw [HE.out]; rfl, HG.out⟩
  by_cases h3 : 16 < reads.length
  · have HE : Hid (F = 63) := by rw [HF.out, if_neg (by omega), if_neg h2, if_pos h3]; rfl
    go_enter Try.func27, Try.ntmps27
    go_wp2
    go_ret
    exact ⟨by rw [HE.out]; rfl, HG.out⟩
  by_cases h4 : 16 < writes.length
  · have HE : Hid (F = 64) := by rw [HF.out, if_neg (by omega), if_neg h2, if_neg h3, if_pos h4]; rfl
    go_enter Try.func27, Try.ntmps27
    go_wp2
    go_ret
    exact ⟨by rw [HE.out]; rfl, HG.out⟩
  have HE : Hid (F = if (decide (Rise reads) && decide (Rise writes)) = true then 0 else 65) := by
    rw [HF.out, if_neg (by omega), if_neg h2, if_neg h3, if_neg h4]
    by_cases r1 : Rise reads <;> by_cases r2 : Rise writes <;> simp [r1, r2, Hid]
  clear HF
  generalize decide (Rise reads) = b1 at *
  generalize decide (Rise writes) = b2 at *
  have HC : Hid (∀ W, Grew w W → W.cell? ⟨w.heap.size, 3, none⟩ = some (.slice aW writes.length cW) → True) := fun _ _ _ => trivial
  go_enter Try.func27, Try.ntmps27
  go_wp2_with fail
  refine (HR.out _ HG.out).mono ?_
  rintro e w1 ⟨rfl, hg⟩
  have HG1 : Hid (Grew w w1) := HG.out.trans hg
  have k3 : w1.cell? ⟨w.heap.size, 3, none⟩ = some (.slice aW writes.length cW) := Grew.cell hg (cell_new _ _ _ 3 _ rfl)
  clear hg HG HC HR
  cases b1
  · go_wp2
    go_ret
    exact ⟨by rw [HE.out]; rfl, HG1.out⟩
  · go_wp2_with fail
    refine (HW.out _ HG1.out).mono ?_
    rintro e w2 ⟨rfl, hg⟩
    have HG2 : Hid (Grew w w2) := HG1.out.trans hg
    clear hg HG1 HW k3
    cases b2
    all_goals
      go_wp2
      go_ret
      exact ⟨by rw [HE.out]; rfl, HG2.out⟩

end Go.Proofs.Ytlilaicgmdbhcaa.Kk
/-
  THE WALK OF THE DOCUMENT's Check.
-/
namespace Go.Proofs.Ytlilaicgmdbhcaa.Kk
open Go.RowKit Go.Sort

theorem refCheck_any (w : World) (k1 k2 : Int) :
    Calls Try.prog 72 #[.agg #[.int .i64 k1, .int .i64 k2]] w fun e w' => e = .returned (.int .i64 (errOf (isKey (k1, k2)) 20)) ∧ ∃ q os, w' = grow (w.drewN q) os := by
  have HE : Hid (∀ b : Bool, isKey (k1, k2) = b → errOf (isKey (k1, k2)) 20 = if b then 0 else 20) := fun b h => by rw [h]; rfl
  go_enter Try.func72, Try.ntmps72
  by_cases h0 : k1 < 0
  · go_wp2
    go_ret
    refine ⟨by rw [HE.out false (by simp [isKey]; omega)]; rfl, Grew.alloc (Grew.refl _) _⟩
  · have h0' : decide (k1 < 0) = false := by simpa using h0
    by_cases h1 : 65535 < k1
    · go_wp2
      go_ret
      refine ⟨by rw [HE.out false (by simp [isKey]; omega)]; rfl, Grew.alloc (Grew.refl _) _⟩
    · have h1' : decide (65535 < k1) = false := by simpa using h1
      go_wp2
      go_ret
      refine ⟨by rw [HE.out true (by simp [isKey]; omega)]; rfl, Grew.alloc (Grew.refl _) _⟩

end Go.Proofs.Ytlilaicgmdbhcaa.Kk
/-
  THE WALK OF THE DOCUMENT's Compare.
-/
namespace Go.Proofs.Ytlilaicgmdbhcaa.Kk
open Go.RowKit Go.Sort

theorem refCompare_any (w : World) (a1 a2 b1 b2 : Int) :
    Calls Try.prog 71 #[.agg #[.int .i64 a1, .int .i64 a2], .agg #[.int .i64 b1, .int .i64 b2]] w fun e w' => e = .returned (.int .i64 (cmp (a1, a2) (b1, b2))) ∧ ∃ q os, w' = grow (w.drewN q) os := by
  by_cases h1 : a1 < b1
  · have HR : Hid (cmp (a1, a2) (b1, b2) = -1) := by rw [Hid]; exact cmp_lt (by rw [lt_iff]; exact .inl h1)
    go_enter Try.func71, Try.ntmps71
    go_wp2
    go_ret
    exact ⟨by rw [HR.out]; rfl, (Grew.alloc (Grew.refl _) _).alloc _⟩
  · by_cases h2 : b1 < a1
    · have HR : Hid (cmp (a1, a2) (b1, b2) = 1) := by rw [Hid]; exact cmp_gt (by rw [lt_iff]; exact .inl h2)
      go_enter Try.func71, Try.ntmps71
      go_wp2
      go_ret
      exact ⟨by rw [HR.out]; rfl, (Grew.alloc (Grew.refl _) _).alloc _⟩
    · have he : a1 = b1 := by omega
      by_cases h3 : a2 < b2
      · have HR : Hid (cmp (a1, a2) (b1, b2) = -1) := by rw [Hid]; exact cmp_lt (by rw [lt_iff]; exact .inr ⟨he, h3⟩)
        clear he
        go_enter Try.func71, Try.ntmps71
        go_wp2
        go_ret
        exact ⟨by rw [HR.out]; rfl, (Grew.alloc (Grew.refl _) _).alloc _⟩
      · by_cases h4 : b2 < a2
        · have HR : Hid (cmp (a1, a2) (b1, b2) = 1) := by rw [Hid]; exact cmp_gt (by rw [lt_iff]; exact .inr ⟨he.symm, h4⟩)
          clear he
          go_enter Try.func71, Try.ntmps71
          go_wp2
          go_ret
          exact ⟨by rw [HR.out]; rfl, (Grew.alloc (Grew.refl _) _).alloc _⟩
        · have HR : Hid (cmp (a1, a2) (b1, b2) = 0) := by rw [Hid, he, show a2 = b2 by omega]; exact cmp_self _
          clear he
          go_enter Try.func71, Try.ntmps71
          go_wp2
          go_ret
          exact ⟨by rw [HR.out]; rfl, (Grew.alloc (Grew.refl _) _).alloc _⟩

end Go.Proofs.Ytlilaicgmdbhcaa.Kk
