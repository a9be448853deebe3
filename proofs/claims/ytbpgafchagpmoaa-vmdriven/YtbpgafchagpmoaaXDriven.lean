/-
  VmDriven: HOW MANY STEPS; THE WALKS OF At, Step, Effect, AS THEY ARE USED.
-/
import Derived.Test.YtbpgafchagpmoaaXEnds
namespace Go.Proofs.Ytbpgafchagpmoaa
open Go.RowKit Go.Sort

theorem steps_le {p : Nums} {L : List K} {d : List Int} {A : List Int} {R : List C} (hs : Sound p L d) {m : M} (hg : Good p L d m) : ∀ k, (runN L A R m k).steps ≤ m.steps + k
  | 0 => Nat.le_refl _
  | k + 1 => by
    have ih := steps_le (A := A) (R := R) hs hg k
    show (stepN L A R (runN L A R m k)).steps ≤ _
    cases h : doneB L.length (runN L A R m k) with
    | true => rw [step_done h]; omega
    | false => have := (step_good (A := A) (R := R) hs (run_keeps hs hg k) h).2.1; omega
theorem steps_eq {p : Nums} {L : List K} {d : List Int} {A : List Int} {R : List C} (hs : Sound p L d) {m : M} (hg : Good p L d m) : ∀ k, (∀ j, j < k → doneB L.length (runN L A R m j) = false) → (runN L A R m k).steps = m.steps + k
  | 0, _ => rfl
  | k + 1, h => by
    have ih := steps_eq hs hg k (fun j hj => h j (by omega))
    have := (step_good (A := A) (R := R) hs (run_keeps hs hg k) (h k (by omega))).2.1
    show (stepN L A R (runN L A R m k)).steps = _
    omega
/-- the first place at which it is done is behind just its steps -/
theorem first_done {p : Nums} {L : List K} {d : List Int} {A : List Int} {R : List C} (hs : Sound p L d) :
    doneB L.length (runN L A R (startM p) (lastM L A R (startM p)).steps) = true ∧ ∀ k, k < (lastM L A R (startM p)).steps → doneB L.length (runN L A R (startM p) k) = false := by
  have hg := good_start hs
  have hl := last_done (A := A) (R := R) hs hg
  have hlt : ∀ k, k < (lastM L A R (startM p)).steps → doneB L.length (runN L A R (startM p) k) = false := fun k hk => by
    cases h : doneB L.length (runN L A R (startM p) k) with
    | false => rfl
    | true =>
      have e := last_eq hs hg h
      have := steps_le (A := A) (R := R) hs hg k
      rw [e] at this
      have h0 : (startM p).steps = 0 := rfl
      omega
  refine ⟨?_, hlt⟩
  cases h : doneB L.length (runN L A R (startM p) (lastM L A R (startM p)).steps) with
  | true => rfl
  | false =>
    exfalso
    have e := steps_eq (A := A) (R := R) hs hg ((lastM L A R (startM p)).steps + 1) (fun j hj => by
      by_cases hj' : j < (lastM L A R (startM p)).steps
      · exact hlt j hj'
      · obtain rfl : j = (lastM L A R (startM p)).steps := by omega
        exact h)
    have h0 : (startM p).steps = 0 := rfl
    by_cases hk : (lastM L A R (startM p)).steps + 1 ≤ L.length
    · have mono : ∀ j, (lastM L A R (startM p)).steps + 1 ≤ j → (lastM L A R (startM p)).steps + 1 ≤ (runN L A R (startM p) j).steps := by
        intro j hj
        induction j with
        | zero => omega
        | succ j ih =>
          by_cases hje : (lastM L A R (startM p)).steps + 1 = j + 1
          · rw [← hje, e]; omega
          · have := ih (by omega)
            show _ ≤ (stepN L A R (runN L A R (startM p) j)).steps
            cases hd : doneB L.length (runN L A R (startM p) j) with
            | true => rw [step_done hd]; exact this
            | false => have := (step_good (A := A) (R := R) hs (run_keeps hs hg j) hd).2.1; omega
      have := mono L.length hk
      change _ ≤ (lastM L A R (startM p)).steps at this
      omega
    · have e2 : runN L A R (startM p) (lastM L A R (startM p)).steps = lastM L A R (startM p) := run_stuck (k := L.length) hl _ (by omega)
      rw [e2, hl] at h
      cases h
theorem at_any (w : World) (F : Nat → Prop) (B : Nat) (Z : MZ) (L : List K) (A : List Int) (R : List C) (m : M) (hm : MSt w F B Z L A R m) :
    Calls Try.prog 24 #[pm B] w fun e w' => e = .returned (.int .i64 (m.at_ : Int)) ∧ w' = w := by
  obtain ⟨c3, _⟩ := hm.cells
  clear hm
  go_enter Try.func24, Try.ntmps24
  go_wp2
  go_ret
  exact ⟨rfl, rfl⟩
/-- A MACHINE AND THE REST: the machine in world X, all below world V as it was -/
def Mx (V X : World) (B : Nat) (Z : MZ) (L : List K) (A : List Int) (R : List C) (m : M) : Prop := MSt X (fun k => k < V.heap.size) B Z L A R m ∧ Go.RowKit.Below V.heap.size V X
section
variable {V X Y : World} {B : Nat} {Z : MZ} {L : List K} {A : List Int} {R : List C} {m : M}
theorem Mx.kept (h : Mx V X B Z L A R m) (hb : Go.RowKit.Below X.heap.size X Y) : Mx V Y B Z L A R m := ⟨(h.1.kept hb).1, h.2.trans (hb.mono h.2.size)⟩
theorem done_x (h : Mx V X B Z L A R m) : Calls Try.prog 21 #[pm B] X fun e w' => e = .returned (.bool (doneB L.length m)) ∧ Mx V w' B Z L A R m := by
  obtain ⟨O, hh, x, _, _⟩ := h.1
  exact (done_q X B O hh L A R m x).mono fun e w' ⟨h1, h2⟩ => ⟨h1, h.kept h2.below⟩
theorem step_x {p : Nums} {d : List Int} (h : Mx V X B Z L A R m) (hs : Sound p L d) (hg : Good p L d m) (hf : Fed p A R) : Calls Try.prog 23 #[pm B] X fun e w' => e = .returned (.bool (!doneB L.length m)) ∧ Mx V w' B Z L A R (stepN L A R m) :=
  (step_any X _ B Z p L d A R m h.1 hs hg hf).mono fun _ _ ⟨h1, h2, h3⟩ => ⟨h1, h2, h.2.trans (h3.below (fun _ hk => hk))⟩
theorem effect_x {p : Nums} {d : List Int} (h : Mx V X B Z L A R m) (hs : Sound p L d) (hg : Good p L d m) : Calls Try.prog 22 #[pm B] X fun e w' => ∃ a1 k1 a2 k2, e = .returned (efR (effN L.length m) a1 k1 a2 k2) ∧ EfR w' a1 a2 (effN L.length m) ∧ Mx V w' B Z L A R m := by
  obtain ⟨O, hh, x, _, _⟩ := h.1
  have hl := (limB_iff p L.length).1 hs.lim
  refine (effect_ms X B O hh L A R m x (by rw [hg.pu]; omega) (Nat.le_trans hg.ou (by omega))).mono ?_
  rintro e w' ⟨⟨a1, l1, k1, a2, l2, k2, he, hr⟩, hb⟩
  obtain ⟨h1, rfl, rfl⟩ := hr.read
  exact ⟨a1, k1, a2, k2, he, h1, h.kept hb⟩
theorem effect_z {p : Nums} {d : List Int} (h : Mx V X B Z L A R m) (hs : Sound p L d) (hg : Good p L d m) (hd : doneB L.length m = false) : Calls Try.prog 22 #[pm B] X fun e w' => ∃ a1 k1 a2 k2, e = .returned (.agg (eP false 0 0 a1 0 k1 a2 0 k2 0)) ∧ Mx V w' B Z L A R m := by
  have hz : effN L.length m = zeroEf := by unfold effN; rw [if_neg (by rw [hd]; simp)]
  have h1 := effect_x h hs hg
  rw [hz] at h1
  exact h1.mono fun e w' ⟨a1, k1, a2, k2, he, _, hm⟩ => ⟨a1, k1, a2, k2, he, hm⟩
theorem effect_d {p : Nums} {d : List Int} (h : Mx V X B Z L A R m) (hs : Sound p L d) (hg : Good p L d m) {x : Ef} (hx : effN L.length m = x) : Calls Try.prog 22 #[pm B] X fun e w' => ∃ a1 k1 a2 k2, e = .returned (.agg (eP x.commit x.code x.user a1 x.out.length k1 a2 x.puts.length k2 (x.steps : Int))) ∧ EfR w' a1 a2 x ∧ Mx V w' B Z L A R m := by
  have h1 := effect_x h hs hg
  rw [hx] at h1
  exact h1
theorem same_z (W : World) (c1 c2 : Option Addr) (l1 l2 : Nat) : Calls Try.prog 12 #[.agg (eP false 0 0 c1 0 l1 c2 0 l2 0), .agg (eP false 0 0 none 0 0 none 0 0 0)] W fun e w' => e = .returned (.bool true) ∧ Go.RowKit.Below W.heap.size W w' :=
  sameEffect_eq W zeroEf c1 c2 none none l1 l2 0 0 ⟨.inl rfl, .inl rfl⟩ ⟨.inl rfl, .inl rfl⟩ (by decide) (by decide)
end
end Go.Proofs.Ytbpgafchagpmoaa
