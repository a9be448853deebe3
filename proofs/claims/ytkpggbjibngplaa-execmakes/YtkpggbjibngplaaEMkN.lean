/-
  WHAT THE News OF STORE, BOARD AND THEIR DOCUMENT'S LIKES ANSWER: nothing and an error, or something.
-/
import Derived.Test.YtkpggbjibngplaaLPrc
import Derived.Laws.MakeOwn
import Derived.Deep.DeepCutAuto
namespace Go.Proofs.Ytkpggbjibngplaa
open Go.RowKit Go.Sort

abbrev pt (b : Nat) : Value := .pointer (some ⟨b, 0, none⟩)
/-- nothing and an error, or something new -/
def NP (w : World) (er : Int) (e : Ending) (w' : World) : Prop :=
  ((er ≠ 0 ∧ e = .returned (.tuple #[.pointer none, .int .i64 er])) ∨ (er = 0 ∧ ∃ B, e = .returned (.tuple #[pt B, .int .i64 0]))) ∧ Below w.heap.size w w'
def stE (p c : Int) : Int := if p < 1 ∨ 256 < p then 21 else if c < 1 ∨ 65536 < c then 91 else 0
def ccE (k a : Int) : Int := if k < 1 ∨ 64 < k then 110 else if a < 1 ∨ 16 < a then 111 else 0
theorem NP.bad {w w' : World} {er : Int} (h : er ≠ 0) (hb : Below w.heap.size w w') : NP w er (.returned (.tuple #[.pointer none, .int .i64 er])) w' := ⟨.inl ⟨h, rfl⟩, hb⟩
theorem NP.good {w w' : World} {er : Int} {B : Nat} (h : er = 0) (hb : Below w.heap.size w w') : NP w er (.returned (.tuple #[pt B, .int .i64 0])) w' := ⟨.inr ⟨h, B, rfl⟩, hb⟩

set_option maxRecDepth 100000 in
set_option maxHeartbeats 1000000 in
theorem rstNew (w : World) (p c : Int) : Calls Try.prog 7 #[.int .i64 p, .int .i64 c] w fun e w' => NP w (stE p c) e w' := by
  by_cases h1 : p < 1
  · have HE : Hid (stE p c = 21) := by show _ = _; unfold stE; rw [if_pos (.inl h1)]
    have HX : Hid (NP w (stE p c) (.returned (.tuple #[.pointer none, .int .i64 21])) w) := by rw [HE.out]; exact NP.bad (by decide) (Below.refl _ _)
    clear HE
    go_enter Try.func7, Try.ntmps7
    go_wp2
    go_ret2
    exact HX.out
  by_cases h2 : 256 < p
  · have HE : Hid (stE p c = 21) := by show _ = _; unfold stE; rw [if_pos (.inr h2)]
    have HX : Hid (NP w (stE p c) (.returned (.tuple #[.pointer none, .int .i64 21])) w) := by rw [HE.out]; exact NP.bad (by decide) (Below.refl _ _)
    clear HE
    go_enter Try.func7, Try.ntmps7
    go_wp2
    go_ret2
    exact HX.out
  have hst : stE p c = if c < 1 ∨ 65536 < c then 91 else 0 := by unfold stE; rw [if_neg (by omega)]
  by_cases h3 : c < 1
  · have HX : Hid (NP w (stE p c) (.returned (.tuple #[.pointer none, .int .i64 91])) w) := by rw [hst, if_pos (.inl h3)]; exact NP.bad (by decide) (Below.refl _ _)
    clear hst
    go_enter Try.func7, Try.ntmps7
    go_wp2
    go_ret2
    exact HX.out
  by_cases h4 : 65536 < c
  · have HX : Hid (NP w (stE p c) (.returned (.tuple #[.pointer none, .int .i64 91])) w) := by rw [hst, if_pos (.inr h4)]; exact NP.bad (by decide) (Below.refl _ _)
    clear hst
    go_enter Try.func7, Try.ntmps7
    go_wp2
    go_ret2
    exact HX.out
  have HE : Hid (stE p c = 0) := by show _ = _; rw [hst, if_neg (by omega)]
  clear hst
  go_enter Try.func7, Try.ntmps7
  go_wp2
  go_ret2
  exact NP.good HE.out ((Below.refl _ _).alloc (Nat.le_refl _) _)
abbrev hfN (f : Nat) : Value := .func (.func f) #[] #[]
theorem infoLnN : (Try.prog.info? 176).map (fun i => (i.zero, i.size, i.bytes)) = some (some (.agg #[.pointer none, .pointer none, .int .i64 0]), 3, 24) := by kernel_rfl
theorem make_linesN (c : Nat) (hc : c ≤ 256) (u : World) : (Instr.makeSlice 101 (.int .i64 (c : Int)) (.int .i64 (c : Int))).run Try.prog u = .ok (.slice (some ⟨u.heap.size, 0, none⟩) c c) (u.alloc (.cells (madeCells #[.pointer none, .pointer none, .int .i64 0] (c * 3)) 176)) := by
  obtain ⟨i0, hi, hz0, hz1, hz2⟩ := info_parts infoLnN
  have h := run_make (P := Try.prog) u 101 176 i0 (.agg #[.pointer none, .pointer none, .int .i64 0]) Try.underlying101 hi hz0 .i64 .i64 (c : Int) (c : Int) (by omega) (Int.le_refl _) (by rw [hz2]; omega) (by omega)
  rw [hz1, Int.toNat_natCast] at h
  exact h
theorem run_eqFnN (f : Nat) (w : World) : (binOp .eql 66 (hfN f) .nilFunc).run Try.prog w = .ok (.bool false) w := by
  have h : (Op.equal 66 (hfN f) .nilFunc).run Try.prog w = .ok false w := by
    have : ∀ d, (Op.equalIn (d + 1) 66 (hfN f) .nilFunc).run Try.prog w = .ok false w := fun d => by simp [Op.equalIn, run_underlying Try.underlying66]
    exact this 9999
  simp only [binOp]
  simp [h]
def dcE (p : Int) : Int := if p < 1 ∨ 256 < p then 21 else 0
set_option maxRecDepth 100000 in
set_option maxHeartbeats 1000000 in
theorem dcNew (w : World) (f : Nat) (p : Int) : Calls Try.prog 15 #[.int .i64 p, hfN f] w fun e w' => NP w (dcE p) e w' := by
  by_cases h1 : p < 1
  · have HX : Hid (NP w (dcE p) (.returned (.tuple #[.pointer none, .int .i64 21])) w) := by unfold dcE; rw [if_pos (.inl h1)]; exact NP.bad (by decide) (Below.refl _ _)
    go_enter Try.func15, Try.ntmps15
    go_wp2
    go_ret2
    exact HX.out
  by_cases h2 : 256 < p
  · have HX : Hid (NP w (dcE p) (.returned (.tuple #[.pointer none, .int .i64 21])) w) := by unfold dcE; rw [if_pos (.inr h2)]; exact NP.bad (by decide) (Below.refl _ _)
    go_enter Try.func15, Try.ntmps15
    go_wp2
    go_ret2
    exact HX.out
  have HE : Hid (dcE p = 0) := by show _ = _; unfold dcE; rw [if_neg (by omega)]
  obtain ⟨n, rfl⟩ : ∃ n : Nat, p = n := ⟨p.toNat, by omega⟩
  have heq := run_eqFnN f
  have hmk : ∀ w : World, (Instr.makeMap 100 none).run Try.prog w = .ok (.map (some w.heap.size)) (w.alloc (.map #[] 0)) := fun w => by
    simp [Instr.makeMap, Result.andThen]
  have hml := fun u => make_linesN n (by omega) u
  go_enter Try.func15, Try.ntmps15
  go_wp2
  go_ret2
  exact NP.good HE.out ((((Below.refl _ _).alloc (Nat.le_refl _) _).alloc (by simp) _).alloc (by simp; omega) _)
set_option maxRecDepth 100000 in
set_option maxHeartbeats 1000000 in
theorem stNew (w : World) (p c : Int) : Calls Try.prog 6 #[.int .i64 p, .int .i64 c] w fun e w' => NP w (stE p c) e w' := by
  have HD := dcNew w 16 p
  have hmk : ∀ w : World, (Instr.makeMap 67 none).run Try.prog w = .ok (.map (some w.heap.size)) (w.alloc (.map #[] 0)) := fun w => by
    simp [Instr.makeMap, Result.andThen]
  go_enter Try.func6, Try.ntmps6
  go_wp2_with fail
  refine HD.mono ?_
  clear HD
  rintro e w1 ⟨⟨hne, rfl⟩ | ⟨h0, D, rfl⟩, hb1⟩
  · have HX : Hid (NP w (stE p c) (.returned (.tuple #[.pointer none, .int .i64 (dcE p)])) w1) := by
      have e1 : p < 1 ∨ 256 < p := by
        by_cases h : p < 1 ∨ 256 < p
        · exact h
        · exact absurd (if_neg h) hne
      have e2 : dcE p = stE p c := by unfold dcE stE; rw [if_pos e1, if_pos e1]
      rw [e2]
      exact NP.bad (by rw [← e2]; exact hne) hb1
    have hne' : (dcE p != 0) = true := by simpa using hne
    generalize dcE p = d at *
    clear hb1
    go_wp2
    go_ret2
    exact HX.out
  have h1 : ¬ (p < 1 ∨ 256 < p) := fun h => by unfold dcE at h0; rw [if_pos h] at h0; cases h0
  have hst : stE p c = if c < 1 ∨ 65536 < c then 91 else 0 := by unfold stE; rw [if_neg h1]
  clear h1 h0
  by_cases h3 : c < 1
  · have HX : Hid (NP w (stE p c) (.returned (.tuple #[.pointer none, .int .i64 91])) w1) := by rw [hst, if_pos (.inl h3)]; exact NP.bad (by decide) hb1
    clear hst hb1
    go_wp2
    go_ret2
    exact HX.out
  by_cases h4 : 65536 < c
  · have HX : Hid (NP w (stE p c) (.returned (.tuple #[.pointer none, .int .i64 91])) w1) := by rw [hst, if_pos (.inr h4)]; exact NP.bad (by decide) hb1
    clear hst hb1
    go_wp2
    go_ret2
    exact HX.out
  have HE : Hid (stE p c = 0) := by show _ = _; rw [hst, if_neg (by omega)]
  have HB := hb1.size
  have HB1 : Hid (Below w.heap.size w w1) := hb1
  clear hst hb1
  go_wp2
  go_ret2
  exact NP.good HE.out ((HB1.out.alloc HB _).alloc (by simp; omega) _)
theorem infoIN : (Try.prog.info? 3).map (fun i => (i.zero, i.size, i.bytes)) = some (some (.int .i64 0), 1, 8) := by kernel_rfl
theorem make_intsN (c : Nat) (hc : c ≤ 64) (u : World) : (Instr.makeSlice 74 (.int .i64 (c : Int)) (.int .i64 (c : Int))).run Try.prog u = .ok (.slice (some ⟨u.heap.size, 0, none⟩) c c) (u.alloc (.cells (madeCells #[.int .i64 0] c) 3)) := by
  obtain ⟨i0, hi, hz0, hz1, hz2⟩ := info_parts infoIN
  have h := run_make (P := Try.prog) u 74 3 i0 (.int .i64 0) Try.underlying74 hi hz0 .i64 .i64 (c : Int) (c : Int) (by omega) (Int.le_refl _) (by rw [hz2]; omega) (by omega)
  rw [hz1, Int.toNat_natCast, Nat.mul_one] at h
  exact h
end Go.Proofs.Ytkpggbjibngplaa
