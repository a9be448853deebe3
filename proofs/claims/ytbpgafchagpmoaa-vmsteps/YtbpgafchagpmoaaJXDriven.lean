import Derived.Test.YtbpgafchagpmoaaJXMove
import Derived.Test.YtbpgafchagpmoaaJLawRuns
import Derived.Deep.RegionHeld3
import Derived.Deep.DeepCutAuto
/-
  VmDriven: HOW MANY STEPS; THE WALKS OF At, Step, Effect, AS THEY ARE USED.
-/
namespace Go.Proofs.Ytbpgafchagpmoaa
open Go.RowKit Go.Sort

theorem steps_le {p : Nums} {L : List K} {d : List Int} {A : List Int} {R : List C} (hs : Sound p L d) {m : M} (hg : Good p L d m) : ∀ k, (runN L A R m k).steps ≤ m.steps + k
  | 0 => Nat.le_refl _
  | k + 1 => by
    have ih := steps_le (A := A) (R := R) hs hg k
    show (stepN L A R (runN L A R m k)).steps ≤ _
    cases h : doneB L.length (runN L A R m k) with
    | true => rw [step_done h]; omega
    | false => have := (step_good (A := A) (R := R) hs (run_keeps hs hg k) h).2.1; omega
theorem steps_eq {p : Nums} {L : List K} {d : List Int} {A : List Int} {R : List C} (hs : Sound p L d) {m : M} (hg : Good p L d m) : ∀ k, (∀ j, j < k → doneB L.length (runN L A R m j) = false) → (runN L A R m k).steps = m.steps + k
  | 0, _ => rfl
  | k + 1, h => by
    have ih := steps_eq hs hg k (fun j hj => h j (by omega))
    have := (step_good (A := A) (R := R) hs (run_keeps hs hg k) (h k (by omega))).2.1
    show (stepN L A R (runN L A R m k)).steps = _
    omega
/-- the first place at which it is done is behind just its steps -/
theorem first_done {p : Nums} {L : List K} {d : List Int} {A : List Int} {R : List C} (hs : Sound p L d) :
    doneB L.length (runN L A R (startM p) (lastM L A R (startM p)).steps) = true ∧ ∀ k, k < (lastM L A R (startM p)).steps → doneB L.length (runN L A R (startM p) k) = false := by
  have hg := good_start hs
  have hl := last_done (A := A) (R := R) hs hg
  have hlt : ∀ k, k < (lastM L A R (startM p)).steps → doneB L.length (runN L A R (startM p) k) = false := fun k hk => by
    cases h : doneB L.length (runN L A R (startM p) k) with
    | false => rfl
    | true =>
      have e := last_eq hs hg h
      have := steps_le (A := A) (R := R) hs hg k
      rw [e] at this
      have h0 : (startM p).steps = 0 := rfl
      omega
  refine ⟨?_, hlt⟩
  cases h : doneB L.length (runN L A R (startM p) (lastM L A R (startM p)).steps) with
  | true => rfl
  | false =>
    exfalso
    have e := steps_eq (A := A) (R := R) hs hg ((lastM L A R (startM p)).steps + 1) (fun j hj => by
      by_cases hj' : j < (lastM L A R (startM p)).steps
      · exact hlt j hj'
      · obtain rfl : j = (lastM L A R (startM p)).steps := by omega
        exact h)
    have h0 : (startM p).steps = 0 := rfl
    by_cases hk : (lastM L A R (startM p)).steps + 1 ≤ L.length
    · have mono : ∀ j, (lastM L A R (startM p)).steps + 1 ≤ j → (lastM L A R (startM p)).steps + 1 ≤ (runN L A R (startM p) j).steps := by
        intro j hj
        induction j with
        | zero => omega
        | succ j ih =>
          by_cases hje : (lastM L A R (startM p)).steps + 1 = j + 1
          · rw [← hje, e]; omega
          · have := ih (by omega)
            show _ ≤ (stepN L A R (runN L A R (startM p) j)).steps
            cases hd : doneB L.length (runN L A R (startM p) j) with
            | true => rw [step_done hd]; exact this
            | false => have := (step_good (A := A) (R := R) hs (run_keeps hs hg j) hd).2.1; omega
      have := mono L.length hk
      change _ ≤ (lastM L A R (startM p)).steps at this
      omega
    · have e2 : runN L A R (startM p) (lastM L A R (startM p)).steps = lastM L A R (startM p) := run_stuck (k := L.length) hl _ (by omega)
      rw [e2, hl] at h
      cases h
theorem at_any (w : World) (F : Nat → Prop) (B : Nat) (Z : MZ) (L : List K) (A : List Int) (R : List C) (m : M) (hm : MSt w F B Z L A R m) :
    Calls Try.prog 24 #[pm B] w fun e w' => e = .returned (.int .i64 (m.at_ : Int)) ∧ w' = w := by
  obtain ⟨c3, _⟩ := hm.cells
  clear hm
  go_enter Try.func24, Try.ntmps24
  go_wp2
  go_ret
  exact ⟨rfl, rfl⟩
/-- A MACHINE AND THE REST: the machine in world X, all below world V as it was -/
def Mx (V X : World) (B : Nat) (Z : MZ) (L : List K) (A : List Int) (R : List C) (m : M) : Prop := MSt X (fun k => k < V.heap.size) B Z L A R m ∧ Go.RowKit.Below V.heap.size V X
section
variable {V X Y : World} {B : Nat} {Z : MZ} {L : List K} {A : List Int} {R : List C} {m : M}
theorem Mx.kept (h : Mx V X B Z L A R m) (hb : Go.RowKit.Below X.heap.size X Y) : Mx V Y B Z L A R m := ⟨(h.1.kept hb).1, h.2.trans (hb.mono h.2.size)⟩
theorem done_x (h : Mx V X B Z L A R m) : Calls Try.prog 21 #[pm B] X fun e w' => e = .returned (.bool (doneB L.length m)) ∧ Mx V w' B Z L A R m := by
  obtain ⟨O, hh, x, _, _⟩ := h.1
  exact (done_q X B O hh L A R m x).mono fun e w' ⟨h1, h2⟩ => ⟨h1, h.kept h2.below⟩
theorem step_x {p : Nums} {d : List Int} (h : Mx V X B Z L A R m) (hs : Sound p L d) (hg : Good p L d m) (hf : Fed p A R) : Calls Try.prog 23 #[pm B] X fun e w' => e = .returned (.bool (!doneB L.length m)) ∧ Mx V w' B Z L A R (stepN L A R m) :=
  (step_any X _ B Z p L d A R m h.1 hs hg hf).mono fun _ _ ⟨h1, h2, h3⟩ => ⟨h1, h2, h.2.trans (h3.below (fun _ hk => hk))⟩
theorem effect_x {p : Nums} {d : List Int} (h : Mx V X B Z L A R m) (hs : Sound p L d) (hg : Good p L d m) : Calls Try.prog 22 #[pm B] X fun e w' => ∃ a1 k1 a2 k2, e = .returned (efR (effN L.length m) a1 k1 a2 k2) ∧ EfR w' a1 a2 (effN L.length m) ∧ Mx V w' B Z L A R m := by
  obtain ⟨O, hh, x, _, _⟩ := h.1
  have hl := (limB_iff p L.length).1 hs.lim
  refine (effect_ms X B O hh L A R m x (by rw [hg.pu]; omega) (Nat.le_trans hg.ou (by omega))).mono ?_
  rintro e w' ⟨⟨a1, l1, k1, a2, l2, k2, he, hr⟩, hb⟩
  obtain ⟨h1, rfl, rfl⟩ := hr.read
  exact ⟨a1, k1, a2, k2, he, h1, h.kept hb⟩
theorem effect_z {p : Nums} {d : List Int} (h : Mx V X B Z L A R m) (hs : Sound p L d) (hg : Good p L d m) (hd : doneB L.length m = false) : Calls Try.prog 22 #[pm B] X fun e w' => ∃ a1 k1 a2 k2, e = .returned (.agg (eP false 0 0 a1 0 k1 a2 0 k2 0)) ∧ Mx V w' B Z L A R m := by
  have hz : effN L.length m = zeroEf := by unfold effN; rw [if_neg (by rw [hd]; simp)]
  have h1 := effect_x h hs hg
  rw [hz] at h1
  exact h1.mono fun e w' ⟨a1, k1, a2, k2, he, _, hm⟩ => ⟨a1, k1, a2, k2, he, hm⟩
theorem effect_d {p : Nums} {d : List Int} (h : Mx V X B Z L A R m) (hs : Sound p L d) (hg : Good p L d m) {x : Ef} (hx : effN L.length m = x) : Calls Try.prog 22 #[pm B] X fun e w' => ∃ a1 k1 a2 k2, e = .returned (.agg (eP x.commit x.code x.user a1 x.out.length k1 a2 x.puts.length k2 (x.steps : Int))) ∧ EfR w' a1 a2 x ∧ Mx V w' B Z L A R m := by
  have h1 := effect_x h hs hg
  rw [hx] at h1
  exact h1
theorem same_z (W : World) (c1 c2 : Option Addr) (l1 l2 : Nat) : Calls Try.prog 12 #[.agg (eP false 0 0 c1 0 l1 c2 0 l2 0), .agg (eP false 0 0 none 0 0 none 0 0 0)] W fun e w' => e = .returned (.bool true) ∧ Go.RowKit.Below W.heap.size W w' :=
  sameEffect_eq W zeroEf c1 c2 none none l1 l2 0 0 ⟨.inl rfl, .inl rfl⟩ ⟨.inl rfl, .inl rfl⟩ (by decide) (by decide)
end
end Go.Proofs.Ytbpgafchagpmoaa
/-
  TWO MACHINES SIDE BY SIDE, THE CODE's AND THE DOCUMENT's, IN BLOCKS X.
-/
namespace Go.Proofs.Ytbpgafchagpmoaa
open Go.RowKit Go.Sort

/-- all blocks but P -/
def Cp (w : World) (P : Nat → Prop) (k : Nat) : Prop := k < w.heap.size ∧ ¬ P k
section
variable {w w1 : World} {P : Nat → Prop} {B Br : Nat} {Z : MZ} {L : List K} {A : List Int} {R : List C} {m : M} {c : MC}
theorem MSt.sameP (x : MSt w (Cp w P) B Z L A R m) (hs : ∀ k, k < w.heap.size → P k → w1.heap[k]? = w.heap[k]?) (hz : w.heap.size ≤ w1.heap.size) : MSt w1 (Cp w1 P) B Z L A R m := by
  obtain ⟨O, h, x, hF, hZ⟩ := x
  refine ⟨O, h, x.same (fun k hk => hs k (x.own k hk) ?_) hz, fun k hk => ⟨?_, hk.1⟩, hZ⟩
  · exact Classical.byContradiction fun hp => hk (hF k ⟨x.own k hk, hp⟩).1
  · by_cases hl : k < w.heap.size
    · exact (hF k ⟨hl, hk.2⟩).1
    · exact x.new k (by omega)
theorem MRt.sameP (x : MRt w (Cp w P) Br c m) (hs : ∀ k, k < w.heap.size → P k → w1.heap[k]? = w.heap[k]?) (hz : w.heap.size ≤ w1.heap.size) : MRt w1 (Cp w1 P) Br c m := by
  obtain ⟨O, h, x, hF⟩ := x
  refine ⟨O, h, x.same (fun k hk => hs k (x.own k hk) ?_) hz, fun k hk => ⟨?_, hk.1⟩⟩
  · exact Classical.byContradiction fun hp => hk (hF k ⟨x.own k hk, hp⟩).1
  · by_cases hl : k < w.heap.size
    · exact (hF k ⟨hl, hk.2⟩).1
    · exact x.new k (by omega)
theorem MSt.grewP (x : MSt w1 (Cp w P) B Z L A R m) : MSt w1 (Cp w1 (fun k => P k ∨ w.heap.size ≤ k ∧ k < w1.heap.size)) B Z L A R m :=
  x.mono fun _ ⟨h1, h2⟩ => ⟨Nat.lt_of_not_le fun h => h2 (.inr ⟨h, h1⟩), fun h => h2 (.inl h)⟩
theorem MRt.grewP (x : MRt w1 (Cp w P) Br c m) : MRt w1 (Cp w1 (fun k => P k ∨ w.heap.size ≤ k ∧ k < w1.heap.size)) Br c m :=
  x.mono fun _ ⟨h1, h2⟩ => ⟨Nat.lt_of_not_le fun h => h2 (.inr ⟨h, h1⟩), fun h => h2 (.inl h)⟩
end
/-- the pair, in blocks X behind N; what it was given lies ahead of N -/
structure Pr2 (N : Nat) (w : World) (X : Nat → Prop) (B Br : Nat) (Z : MZ) (c : MC) (p : Nums) (L : List K) (d : List Int) (A : List Int) (R : List C) (m : M) : Prop where
  ex : ∃ P Q : Nat → Prop, MSt w (Cp w P) B Z L A R m ∧ MRt w (Cp w Q) Br c (dnM L.length m) ∧ (∀ k, P k → X k) ∧ (∀ k, Q k → X k) ∧ (∀ k, P k → ¬ Q k)
  lt : ∀ k, X k → N ≤ k ∧ k < w.heap.size
  hN : N ≤ w.heap.size
  giv : Giv w (fun k => k < N) c L A R
  good : Good p L d m
  fits : Fits m
/-- what never turns -/
structure Cst (c : MC) (p : Nums) (L : List K) (d : List Int) (A : List Int) (R : List C) : Prop where
  s : Sound p L d
  f : Fed p A R
  p : c.p = p
  i : Ins L A R
section
variable {N : Nat} {w w1 w2 : World} {X Y : Nat → Prop} {B Br : Nat} {Z : MZ} {c : MC} {p : Nums} {L : List K} {d : List Int} {A : List Int} {R : List C} {m : M}
theorem Pr2.fr (x : Pr2 N w X B Br Z c p L d A R m) (hb : Fr (Cp w Y) w w1) (hd : ∀ k, X k → ¬ Y k) (hY : ∀ k, Y k → N ≤ k) : Pr2 N w1 X B Br Z c p L d A R m := by
  obtain ⟨P, Q, h1, h2, h3, h4, h5⟩ := x.ex
  exact ⟨⟨P, Q, h1.sameP (fun k hk hp => hb.block k ⟨hk, hd k (h3 k hp)⟩) hb.size, h2.sameP (fun k hk hp => hb.block k ⟨hk, hd k (h4 k hp)⟩) hb.size, h3, h4, h5⟩,
    fun k hk => ⟨(x.lt k hk).1, Nat.lt_of_lt_of_le (x.lt k hk).2 hb.size⟩, Nat.le_trans x.hN hb.size, x.giv.next (hb.mono fun k hk => ⟨Nat.lt_of_lt_of_le hk x.hN, fun h => Nat.not_lt.2 (hY k h) hk⟩), x.good, x.fits⟩
theorem fr_none (hb : Go.RowKit.Below w.heap.size w w1) : Fr (Cp w X) w w1 := Fr.ofBelow hb (fun _ h => h.1)
theorem Pr2.kept (x : Pr2 N w X B Br Z c p L d A R m) (hb : Go.RowKit.Below w.heap.size w w1) : Pr2 N w1 X B Br Z c p L d A R m := x.fr (Y := fun _ => False) (fr_none hb) (fun _ _ h => h) (fun _ h => h.elim)
/-- what an answer leaves -/
def AskPost (N : Nat) (w : World) (X : Nat → Prop) (B Br : Nat) (Z : MZ) (c : MC) (p : Nums) (L : List K) (d : List Int) (A : List Int) (R : List C) (e : Ending) (w' : World) : Prop :=
  e = .returned (.bool true) ∧ ∃ m' X', Pr2 N w' X' B Br Z c p L d A R m' ∧ Fr (Cp w X) w w' ∧ ∀ k, X' k → X k ∨ w.heap.size ≤ k
theorem Pr2.asked (x : Pr2 N w X B Br Z c p L d A R m) (hb : Go.RowKit.Below w.heap.size w w1) : AskPost N w X B Br Z c p L d A R (.returned (.bool true)) w1 :=
  ⟨rfl, m, X, x.kept hb, fr_none hb, fun _ h => .inl h⟩
end
set_option maxRecDepth 100000 in
set_option maxHeartbeats 2000000 in
theorem asked_step (N : Nat) (w : World) (X : Nat → Prop) (B Br : Nat) (Z : MZ) (c : MC) (p : Nums) (L : List K) (d : List Int) (A : List Int) (R : List C) (m : M) (hx : Pr2 N w X B Br Z c p L d A R m) (hc : Cst c p L d A R) :
    Calls Try.prog 18 #[pm B, pm Br, .int .i64 0] w fun e w' => AskPost N w X B Br Z c p L d A R e w' := by
  obtain ⟨P, Q, h1, h2, h3, h4, h5⟩ := hx.ex
  have HX : Hid (Pr2 N w X B Br Z c p L d A R m) := hx
  have HC : Hid (Cst c p L d A R) := hc
  have H2 : Hid (MRt w (Cp w Q) Br c (dnM L.length m)) := h2
  have HP : Hid ((∀ k, P k → X k) ∧ (∀ k, Q k → X k) ∧ (∀ k, P k → ¬ Q k)) := ⟨h3, h4, h5⟩
  have HS := step_any w (Cp w P) B Z p L d A R m h1 hc.s hx.good hc.f
  clear hx hc h1 h2 h3 h4 h5
  go_enter Try.func18, Try.ntmps18
  go_wp2_with fail
  refine HS.mono ?_
  rintro e w1 ⟨rfl, hm, hf⟩
  have HM1 : Hid (MSt w1 (Cp w1 (fun k => P k ∨ w.heap.size ≤ k ∧ k < w1.heap.size)) B Z L A R (stepN L A R m)) := hm.grewP
  have HF1 : Hid (Fr (Cp w P) w w1) := hf
  have hr1 : MRt w1 (Cp w1 Q) Br c (dnM L.length m) := H2.out.sameP (fun k hk hq => hf.block k ⟨hk, fun hp => HP.out.2.2 k hp hq⟩) hf.size
  have hg1 : Giv w1 (fun k => k < N) c L A R := HX.out.giv.next (hf.mono fun k hk => ⟨Nat.lt_of_lt_of_le hk HX.out.hN, fun h => Nat.not_lt.2 (HX.out.lt k (HP.out.1 k h)).1 hk⟩)
  have hg2 : Giv w1 (Cp w1 Q) c L A R := hg1.mono fun k hk => ⟨Nat.lt_of_lt_of_le hk (Nat.le_trans HX.out.hN hf.size), fun h => Nat.not_lt.2 (HX.out.lt k (HP.out.2.1 k h)).1 hk⟩
  have HG1 : Hid (Giv w1 (fun k => k < N) c L A R) := hg1
  have HR := rstep_any w1 (Cp w1 Q) Br c p L d A R m hr1 hg2 HC.out.s HX.out.good HC.out.f HC.out.p HX.out.fits
  clear HS hm hf hr1 hg1 hg2
  generalize (!doneB L.length m) = b at *
  go_wp2_with fail
  refine HR.mono ?_
  rintro e w2 ⟨rfl, hm, hf⟩
  have HEnd : Hid (∃ m' X', Pr2 N w2 X' B Br Z c p L d A R m' ∧ Fr (Cp w X) w w2 ∧ ∀ k, X' k → X k ∨ w.heap.size ≤ k) := by
    have hs1 := HF1.out.size
    have hs2 := hf.size
    have hN := HX.out.hN
    refine ⟨stepN L A R m, fun k => X k ∨ w.heap.size ≤ k ∧ k < w2.heap.size, ⟨⟨(fun k => P k ∨ w.heap.size ≤ k ∧ k < w1.heap.size), (fun k => Q k ∨ w1.heap.size ≤ k ∧ k < w2.heap.size), ?_, hm.grewP, ?_, ?_, ?_⟩, ?_, ?_, ?_, ?_, ?_⟩, ?_, ?_⟩
    · refine HM1.out.sameP (fun k hk hp => hf.block k ⟨hk, fun hq => ?_⟩) hf.size
      rcases hp with hp | hp
      · exact HP.out.2.2 k hp hq
      · have := (HX.out.lt k (HP.out.2.1 k hq)).2; omega
    · rintro k (h | h)
      · exact .inl (HP.out.1 k h)
      · exact .inr ⟨h.1, by omega⟩
    · rintro k (h | h)
      · exact .inl (HP.out.2.1 k h)
      · exact .inr ⟨by omega, h.2⟩
    · rintro k (h | h) (h' | h')
      · exact HP.out.2.2 k h h'
      · have := (HX.out.lt k (HP.out.1 k h)).2; omega
      · have := (HX.out.lt k (HP.out.2.1 k h')).2; omega
      · omega
    · rintro k (h | h)
      · have := HX.out.lt k h; exact ⟨this.1, by omega⟩
      · exact ⟨by omega, h.2⟩
    · omega
    · exact HG1.out.next (hf.mono fun k hk => ⟨by omega, fun h => by have := (HX.out.lt k (HP.out.2.1 k h)).1; omega⟩)
    · exact step_keeps HC.out.s HX.out.good
    · exact step_fits HC.out.i HX.out.fits
    · refine (HF1.out.mono fun k hk => ⟨hk.1, fun h => hk.2 (HP.out.1 k h)⟩).trans (hf.mono fun k hk => ⟨by have := hk.1; omega, fun h => hk.2 (HP.out.2.1 k h)⟩)
    · rintro k (h | h)
      · exact .inl h
      · exact .inr h.1
  clear hm hf HR
  go_wp2_with fail
  go_ret
  cases b <;> exact ⟨rfl, HEnd.out⟩
set_option maxRecDepth 100000 in
theorem asked_none (N : Nat) (w : World) (X : Nat → Prop) (B Br : Nat) (Z : MZ) (c : MC) (p : Nums) (L : List K) (d : List Int) (A : List Int) (R : List C) (m : M) (k : Int) (hx : Pr2 N w X B Br Z c p L d A R m) (hk : 6 ≤ k) :
    Calls Try.prog 18 #[pm B, pm Br, .int .i64 k] w fun e w' => AskPost N w X B Br Z c p L d A R e w' := by
  have HE : Hid (AskPost N w X B Br Z c p L d A R (.returned (.bool true)) w) := hx.asked (Below.refl _ _)
  have q0 : ¬ k = 0 := by omega
  have q1 : ¬ k = 1 := by omega
  have q2 : ¬ k = 2 := by omega
  have q3 : ¬ k = 3 := by omega
  have q4 : ¬ k = 4 := by omega
  have q5 : ¬ k = 5 := by omega
  clear hx hk
  go_enter Try.func18, Try.ntmps18
  go_wp2
  go_ret
  exact HE.out
end Go.Proofs.Ytbpgafchagpmoaa
/-
  asked: DONE, AT.
-/
namespace Go.Proofs.Ytbpgafchagpmoaa
open Go.RowKit Go.Sort

set_option maxRecDepth 100000 in
set_option maxHeartbeats 2000000 in
theorem asked_done (N : Nat) (w : World) (X : Nat → Prop) (B Br : Nat) (Z : MZ) (c : MC) (p : Nums) (L : List K) (d : List Int) (A : List Int) (R : List C) (m : M) (hx : Pr2 N w X B Br Z c p L d A R m) :
    Calls Try.prog 18 #[pm B, pm Br, .int .i64 1] w fun e w' => AskPost N w X B Br Z c p L d A R e w' := by
  obtain ⟨P, Q, h1, h2, _⟩ := hx.ex
  have HX : Hid (Pr2 N w X B Br Z c p L d A R m) := hx
  obtain ⟨O, hh, hms, _, _⟩ := h1
  have HD : Hid (∀ W, Grew w W → Calls Try.prog 21 #[pm B] W fun e w' => e = .returned (.bool (doneB L.length m)) ∧ Grew W w') := fun W hW => done_q W B O hh L A R m (hms.kept hW.below)
  have x3 : w.cell? ⟨Br, 13, none⟩ = some (.bool (doneB L.length m)) := h2.cells.2.2.1
  have HG : Hid (Grew w w.drew) := (Grew.refl w).drewN 1
  have HGx : Hid (∀ W, Grew w W → W.cell? ⟨Br, 13, none⟩ = some (.bool (doneB L.length m))) := fun W hW => by
    have := hW.below.block Br (cell_lt x3)
    simp only [World.cell?] at x3 ⊢
    rw [this]; exact x3
  clear h2 hx hms
  generalize doneB L.length m = b at *
  go_enter Try.func18, Try.ntmps18
  go_upto_region 7 with fail
  go_region_held3 (fun w' => w'.cell? ⟨Br, 13, none⟩ = some (.bool b)) (first | exact y3 | go_keep) (first | (go_at_call 21; refine (HD.out _ HG.out).mono ?_; rintro e w1 ⟨rfl, hg⟩; have HG1 : Hid (Grew w w1) := HG.out.trans hg; have y3 := HGx.out w1 HG1.out; clear hg))
  all_goals (
    go_wp2_with fail
    go_ret
    cases b <;> exact HX.out.asked HG1.out.below)
set_option maxRecDepth 100000 in
set_option maxHeartbeats 2000000 in
theorem asked_at (N : Nat) (w : World) (X : Nat → Prop) (B Br : Nat) (Z : MZ) (c : MC) (p : Nums) (L : List K) (d : List Int) (A : List Int) (R : List C) (m : M) (hx : Pr2 N w X B Br Z c p L d A R m) :
    Calls Try.prog 18 #[pm B, pm Br, .int .i64 2] w fun e w' => AskPost N w X B Br Z c p L d A R e w' := by
  obtain ⟨P, Q, h1, h2, _⟩ := hx.ex
  have HX : Hid (Pr2 N w X B Br Z c p L d A R m) := hx
  have HD : Hid (∀ W, Grew w W → Calls Try.prog 24 #[pm B] W fun e w' => e = .returned (.int .i64 (m.at_ : Int)) ∧ w' = W) := fun W hW => at_any W _ B Z L A R m (h1.kept hW.below).1
  have x3 : w.cell? ⟨Br, 11, none⟩ = some (.int .i64 (m.at_ : Int)) := h2.cells.1
  have HG : Hid (Grew w w.drew) := (Grew.refl w).drewN 1
  clear h1 h2 hx
  generalize m.at_ = b at *
  go_enter Try.func18, Try.ntmps18
  go_upto_region 9 with fail
  go_region_held3 (fun w' => w'.cell? ⟨Br, 11, none⟩ = some (.int .i64 (b : Int))) (go_keep) (first | (go_at_call 24; refine (HD.out _ HG.out).mono ?_; rintro e w1 ⟨rfl, rfl⟩))
  all_goals (
    go_wp2_with fail
    go_ret
    exact HX.out.asked HG.out.below)
end Go.Proofs.Ytbpgafchagpmoaa
/-
  asked: STACK, LOCALS.
-/
namespace Go.Proofs.Ytbpgafchagpmoaa
open Go.RowKit Go.Sort

theorem ints_one (S : List Int) : ∀ u ∈ S.map iv, u.oneCell' = true := by
  intro u hu
  obtain ⟨x, _, rfl⟩ := List.mem_map.1 hu
  rfl
theorem stack_any (w : World) (F : Nat → Prop) (B : Nat) (Z : MZ) (L : List K) (A : List Int) (R : List C) (m : M) (hm : MSt w F B Z L A R m) (hn : (m.st.reverse).length ≤ 1000000) :
    Calls Try.prog 35 #[pm B] w fun e w' => ∃ a k, e = .returned (.slice a (m.st.reverse).length k) ∧ w'.ownsRow w.heap.size 2 1 (.slice a (m.st.reverse).length k) (m.st.reverse).length ((m.st.reverse).map iv) ∧ Go.RowKit.Below w.heap.size w w' := by
  obtain ⟨O, h, hm, _, _⟩ := hm
  obtain ⟨ao, cap, hv, hnil, _⟩ := own_slice hm.stack
  have hr : CellsAt w ao ((m.st.reverse).map iv) := by have := hm.stack; rw [hv] at this; exact own_read this
  have c4 : w.cell? ⟨B, 4, none⟩ = some (.slice ao (m.st.reverse).length cap) := by rw [hm.cell 4, ← hv]; rfl
  have HC := clone_i64 w ao (m.st.reverse).length cap ((m.st.reverse).map iv) (by simp) hr (fun e => (hnil e).symm) (ints_one _) (by omega)
  clear hm hr hnil hv
  generalize m.st.reverse = T at *
  go_enter Try.func35, Try.ntmps35
  go_wp2_with fail
  refine HC.mono ?_
  rintro e w1 ⟨v, rfl, h1, h2⟩
  obtain ⟨a, k, rfl, _⟩ := own_slice h1
  go_wp2_with fail
  go_ret
  exact ⟨a, k, rfl, h1, h2⟩
theorem locals_any (w : World) (F : Nat → Prop) (B : Nat) (Z : MZ) (L : List K) (A : List Int) (R : List C) (m : M) (hm : MSt w F B Z L A R m) (hn : (m.lo).length ≤ 1000000) :
    Calls Try.prog 36 #[pm B] w fun e w' => ∃ a k, e = .returned (.slice a (m.lo).length k) ∧ w'.ownsRow w.heap.size 2 1 (.slice a (m.lo).length k) (m.lo).length ((m.lo).map iv) ∧ Go.RowKit.Below w.heap.size w w' := by
  obtain ⟨O, h, hm, _, _⟩ := hm
  obtain ⟨ao, cap, hv, hnil, _⟩ := own_slice hm.locs
  have hr : CellsAt w ao ((m.lo).map iv) := by have := hm.locs; rw [hv] at this; exact own_read this
  have c4 : w.cell? ⟨B, 5, none⟩ = some (.slice ao (m.lo).length cap) := by rw [hm.cell 5, ← hv]; rfl
  have HC := clone_i64 w ao (m.lo).length cap ((m.lo).map iv) (by simp) hr (fun e => (hnil e).symm) (ints_one _) (by omega)
  clear hm hr hnil hv
  generalize m.lo = T at *
  go_enter Try.func36, Try.ntmps36
  go_wp2_with fail
  refine HC.mono ?_
  rintro e w1 ⟨v, rfl, h1, h2⟩
  obtain ⟨a, k, rfl, _⟩ := own_slice h1
  go_wp2_with fail
  go_ret
  exact ⟨a, k, rfl, h1, h2⟩
/-- two lists that were handed out, and the document's -/
structure LS (w V : World) (n : Nat) (S : List Int) (va vb : Value) (c1 : Option Addr) : Prop where
  bel : Go.RowKit.Below w.heap.size w V
  a : V.ownsRow w.heap.size 2 1 va n (S.map iv)
  b : V.ownsRow w.heap.size 2 1 vb n (S.map iv)
  ne : ∀ g, va.ownBlock = some g → vb.ownBlock ≠ some g
  c : CellsAt w c1 (S.map iv)
theorem LS.swap {w V : World} {n : Nat} {S : List Int} {va vb : Value} {c1 : Option Addr} (h : LS w V n S va vb c1) : LS w V n S vb va c1 := ⟨h.bel, h.b, h.a, fun g h1 h2 => h.ne g h2 h1, h.c⟩
/-- while the first is written over -/
structure LT (w V : World) (n : Nat) (S : List Int) (va vb : Value) (c1 : Option Addr) : Prop where
  bel : Go.RowKit.Below w.heap.size w V
  a : ∃ xs, V.ownsRow w.heap.size 2 1 va n xs
  b : V.ownsRow w.heap.size 2 1 vb n (S.map iv)
  ne : ∀ g, va.ownBlock = some g → vb.ownBlock ≠ some g
  c : CellsAt w c1 (S.map iv)
section
variable {w V V' : World} {n : Nat} {S : List Int} {va vb : Value} {c1 : Option Addr}
theorem LS.lt (h : LS w V n S va vb c1) : LT w V n S va vb c1 := ⟨h.bel, ⟨_, h.a⟩, h.b, h.ne, h.c⟩
theorem LS.kept (h : LS w V n S va vb c1) (hb : Go.RowKit.Below V.heap.size V V') : LS w V' n S va vb c1 := ⟨h.bel.trans (hb.mono h.bel.size), ownsRow_same h.a (fun g hg => hb.block g (World.ownsRow.lt h.a g hg).2), ownsRow_same h.b (fun g hg => hb.block g (World.ownsRow.lt h.b g hg).2), h.ne, h.c⟩
theorem LT.set {g cap j : Nat} {u : Value} (h : LT w V n S (.slice (some ⟨g, 0, none⟩) n cap) vb c1) : LT w (V.setCell ⟨g, j, none⟩ u) n S (.slice (some ⟨g, 0, none⟩) n cap) vb c1 := by
  obtain ⟨xs, hx⟩ := h.a
  obtain ⟨h1, h2⟩ := World.ownsRow.stored hx j u
  exact ⟨h.bel.trans (below_setCell _ _ (World.ownsRow.lt hx g rfl).1), ⟨_, h1⟩, ownsRow_same h.b (fun k hk => heap_setCell_other V ⟨g, j, none⟩ k u (fun e => h.ne g rfl (by rw [← (show k = g from e)]; exact hk))), h.ne, h.c⟩
theorem LT.app {v' : Value} {xs ys : List Value} {m : Nat} (h : LT w V n S va vb c1) (ha : V.ownsRow w.heap.size 2 1 va n xs) (_h1 : V'.ownsRow w.heap.size 2 1 v' (n + m) (xs ++ ys)) (h2 : V.grownBy V' va.ownBlock) : Go.RowKit.Below w.heap.size w V' ∧ V'.ownsRow w.heap.size 2 1 vb n (S.map iv) :=
  ⟨h.bel.trans ⟨h2.os, h2.tape, h2.output, h2.size, fun k hk => h2.block k (Nat.lt_of_lt_of_le hk h.bel.size) (fun e => by have := (World.ownsRow.lt ha k e.symm).1; omega)⟩, ownsRow_same h.b (fun k hk => h2.block k (World.ownsRow.lt h.b k hk).2 (fun e => h.ne k e.symm hk))⟩
end
set_option maxRecDepth 100000 in
set_option maxHeartbeats 4000000 in
theorem asked_stack (N : Nat) (w : World) (X : Nat → Prop) (B Br : Nat) (Z : MZ) (c : MC) (p : Nums) (L : List K) (d : List Int) (A : List Int) (R : List C) (m : M) (hx : Pr2 N w X B Br Z c p L d A R m) (hs : Sound p L d) :
    Calls Try.prog 18 #[pm B, pm Br, .int .i64 3] w fun e w' => AskPost N w X B Br Z c p L d A R e w' := by
  obtain ⟨P, Q, h1, h2, _⟩ := hx.ex
  have HX : Hid (Pr2 N w X B Br Z c p L d A R m) := hx
  have hl := (limB_iff p L.length).1 hs.lim
  have hls : m.st.length ≤ 32 := hx.good.st
  have hll : m.lo.length ≤ 1000000 := by rw [hx.good.lo]; omega
  obtain ⟨jj0, ji, jz0, jz1, jz2⟩ := info_parts info64
  obtain ⟨O, h, x, _⟩ := h2
  obtain ⟨c1, ck, hv, _, _⟩ := own_slice x.stack
  have HCc : Hid (CellsAt w c1 ((m.st.reverse).map iv)) := by have := x.stack; rw [hv] at this; exact own_read this
  have HCx : Hid (∀ W, Go.RowKit.Below w.heap.size w W → W.cell? ⟨Br, 7, none⟩ = some (.slice c1 (m.st.reverse).length ck)) := fun W hb => by rw [(x.kept hb).cell 7]; exact congrArg some hv
  have HStack : Hid (∀ W, Go.RowKit.Below w.heap.size w W → Calls Try.prog 35 #[pm B] W fun e w' => ∃ a k, e = .returned (.slice a (m.st.reverse).length k) ∧ w'.ownsRow W.heap.size 2 1 (.slice a (m.st.reverse).length k) (m.st.reverse).length ((m.st.reverse).map iv) ∧ Go.RowKit.Below W.heap.size W w') := fun W hb => stack_any W _ B Z L A R m (h1.kept hb).1 (by first | (simp; omega) | omega)
  have HN0 : Hid (m.st.reverse.length ≤ 1000000) := by show _ ≤ _; simp; omega
  have y0 := HCx.out w (Below.refl _ _)
  have HB0 : Hid (Go.RowKit.Below w.heap.size w w.drew) := ((Grew.refl w).drewN 1).below
  clear h1 hx hs hl hls hll x hv
  generalize hS : m.st.reverse = S at *
  generalize hn : S.length = n at HN0 HCx HStack y0
  have HN : Hid (n = S.length ∧ n ≤ 1000000) := ⟨hn.symm, HN0.out⟩
  clear hS hn HN0
  go_enter Try.func18, Try.ntmps18
  go_upto_region 12 with fail
  go_cut [9, 10, 11] (fun x y z wx => ∃ a1 ak b1 bk c1 ck, x = .slice a1 n ak ∧ y = .slice b1 n bk ∧ z = .slice c1 n ck ∧ LS w wx n S (.slice a1 n ak) (.slice b1 n bk) c1)
  case first =>
    go_region_held3 (fun w' => w'.cell? ⟨Br, 7, none⟩ = some (.slice c1 n ck)) (first | exact y2 | exact y1 | go_keep) (first
      | (go_at_call 35; refine (HStack.out _ HB1.out).mono ?_; rintro e w2 ⟨b1, bk, rfl, hb, hbel⟩; have HB2 : Hid (Go.RowKit.Below w.heap.size w w2) := HB1.out.trans (hbel.mono HB1.out.size); have HLs : Hid (LS w w2 n S (.slice a1 n ak) (.slice b1 n bk) c1) := ⟨HB2.out, ownsRow_same HA1.out (fun g hg => hbel.block g (World.ownsRow.lt HA1.out g hg).2), ownsRow_mono hb HB1.out.size, (fun g h1 h2 => by have := (World.ownsRow.lt HA1.out g h1).2; have := (World.ownsRow.lt hb g h2).1; omega), HCc.out⟩; have y2 := HCx.out w2 HB2.out; clear hb hbel)
      | (go_at_call 35; refine (HStack.out _ HB0.out).mono ?_; rintro e w1 ⟨a1, ak, rfl, ha, hbel⟩; have HB1 : Hid (Go.RowKit.Below w.heap.size w w1) := HB0.out.trans (hbel.mono HB0.out.size); have HA1 : Hid (w1.ownsRow w.heap.size 2 1 (.slice a1 n ak) n ((S).map iv)) := ownsRow_mono ha HB0.out.size; have y1 := HCx.out w1 HB1.out; clear ha hbel))
    all_goals (
      go_wp2_with fail
      go_meet
      first | exact ⟨_, _, _, _, _, _, rfl, rfl, rfl, HLs.out⟩ | exact ⟨_, _, _, _, _, _, rfl, rfl, rfl, HLs.out.swap⟩)
  case rest =>
    clear y0 HB0 HCx HCc HStack
    obtain ⟨a1, ak, b1, bk, c1, ck, rfl, rfl, rfl, hls⟩ := hcut
    have HL : Hid (LS w wc n S (.slice a1 n ak) (.slice b1 n bk) c1) := hls
    clear hls
    have HW1 := sameWords_eq wc a1 c1 n ak ck S (own_read HL.out.a) (HL.out.c.below HL.out.bel) HN.out.1 HN.out.2
    go_wp2_with fail
    refine HW1.mono ?_
    rintro e w1 ⟨rfl, hg⟩
    have HL1 : Hid (LS w w1 n S (.slice a1 n ak) (.slice b1 n bk) c1) := HL.out.kept hg.below
    clear hg HW1 HL
    have HW2 := sameWords_eq w1 b1 c1 n bk ck S (own_read HL1.out.b) (HL1.out.c.below HL1.out.bel) HN.out.1 HN.out.2
    go_wp2_with fail
    refine HW2.mono ?_
    rintro e w2 ⟨rfl, hg⟩
    have HL2 : Hid (LT w w2 n S (.slice a1 n ak) (.slice b1 n bk) c1) := (HL1.out.kept hg.below).lt
    clear hg HW2 HL1
    have hn2 := HN.out.2
    go_wp2_with fail
    go_loopw [12] (fun x wr => ∃ k : Nat, k ≤ n ∧ x = .int .i64 (k : Int) ∧ Hid (LT w wr n S (.slice a1 n ak) (.slice b1 n bk) c1)) (fun x _ => n - (intOf x).toNat)
    case atStart => exact ⟨0, Nat.zero_le _, rfl, HL2⟩
    case round =>
      clear HL2
      obtain ⟨k, hk, rfl, HL2⟩ := hrel
      by_cases hlt : k < n
      · obtain ⟨xs, hxs⟩ := HL2.out.a
        obtain ⟨g, cap', hv, _⟩ := own_some hxs (by omega)
        simp only [Value.slice.injEq] at hv
        obtain ⟨rfl, _, _⟩ := hv
        have cc := World.ownsRow.cellAt hxs k (by omega)
        obtain ⟨u, hu⟩ : ∃ u, xs[k]? = some u := ⟨_, List.getElem?_eq_getElem (by have := hxs.1; omega)⟩
        rw [hu] at cc
        have ff := World.ownsRow.frozenAt hxs k
        clear hxs hu
        go_wp2
        go_roundw
        case rel => exact ⟨k + 1, by omega, by go_num, HL2.out.set⟩
        case measure => simp [intOf]; omega
      · obtain rfl : n = k := by omega
        obtain ⟨xs, hxs⟩ := HL2.out.a
        have HA : Hid (wr.ownsRow w.heap.size 2 1 (.slice a1 n ak) n xs) := hxs
        clear hxs
        go_wp2_with (at_builtin; refine wpList_append_src rfl _ _ 25 2 jj0 (.int .i64 0) 1 8 Try.underlying25 ji jz0 jz1 jz2 rfl (by decide) rfl w.heap.size (.slice a1 n ak) n xs rfl (ownsRow_same HA.out (fun g hg => heap_alloc_old _ _ (World.ownsRow.lt HA.out g hg).2)) (some ⟨wr.heap.size, 0, none⟩) 1 1 [.int .i64 (-998)] rfl rfl (mk_new wr _ _) (fun e => by cases e) (by intro u hu; simp at hu; rw [hu]; rfl) (by unfold maxLen; omega) (by omega) (Nat.le_trans HL2.out.bel.size (bel_al _ _).size) ?_; intro v3 w3 h1 h2 h3; obtain ⟨g3, k3, hv3, hk3⟩ := own_some h1 (Nat.succ_pos _); subst hv3; have cc := World.ownsRow.cellAt h1 n (by omega); have HB3 : Hid (Go.RowKit.Below w.heap.size w w3 ∧ w3.ownsRow w.heap.size 2 1 (.slice b1 n bk) n (S.map iv)) := (LT.mk (HL2.out.bel.trans ((bel_al wr _).mono HL2.out.bel.size)) ⟨xs, ownsRow_same HA.out (fun g hg => heap_alloc_old _ _ (World.ownsRow.lt HA.out g hg).2)⟩ (ownsRow_same HL2.out.b (fun g hg => heap_alloc_old _ _ (World.ownsRow.lt HL2.out.b g hg).2)) HL2.out.ne HL2.out.c).app (ownsRow_same HA.out (fun g hg => heap_alloc_old _ _ (World.ownsRow.lt HA.out g hg).2)) h1 h2; rw [List.getElem?_append_right (by have := HA.out.1; omega), show n - xs.length = 0 by (have := HA.out.1; omega)] at cc; clear h1 h2 h3)
        have HW3 := sameWords_eq w3 b1 c1 n bk ck S (own_read HB3.out.2) (HL2.out.c.below HB3.out.1) HN.out.1 HN.out.2
        refine HW3.mono ?_
        rintro e w4 ⟨rfl, hg⟩
        have HB4 : Hid (Go.RowKit.Below w.heap.size w w4) := HB3.out.1.trans (hg.below.mono HB3.out.1.size)
        have cc4 : w4.cell? ⟨g3, n, none⟩ = some (.int .i64 (-998)) := by
          have h1 := hg.below.block g3 (cell_lt cc)
          simp only [World.cell?] at cc ⊢
          rw [h1]; exact cc
        clear hg HW3 cc
        go_wp2_with fail
        go_ret
        exact HX.out.asked HB4.out
set_option maxRecDepth 100000 in
set_option maxHeartbeats 4000000 in
theorem asked_locals (N : Nat) (w : World) (X : Nat → Prop) (B Br : Nat) (Z : MZ) (c : MC) (p : Nums) (L : List K) (d : List Int) (A : List Int) (R : List C) (m : M) (hx : Pr2 N w X B Br Z c p L d A R m) (hs : Sound p L d) :
    Calls Try.prog 18 #[pm B, pm Br, .int .i64 4] w fun e w' => AskPost N w X B Br Z c p L d A R e w' := by
  obtain ⟨P, Q, h1, h2, _⟩ := hx.ex
  have HX : Hid (Pr2 N w X B Br Z c p L d A R m) := hx
  have hl := (limB_iff p L.length).1 hs.lim
  have hls : m.st.length ≤ 32 := hx.good.st
  have hll : m.lo.length ≤ 1000000 := by rw [hx.good.lo]; omega
  obtain ⟨jj0, ji, jz0, jz1, jz2⟩ := info_parts info64
  obtain ⟨O, h, x, _⟩ := h2
  obtain ⟨c1, ck, hv, _, _⟩ := own_slice x.stack
  have HCc : Hid (CellsAt w c1 ((m.st.reverse).map iv)) := by have := x.stack; rw [hv] at this; exact own_read this
  have HCx : Hid (∀ W, Go.RowKit.Below w.heap.size w W → W.cell? ⟨Br, 7, none⟩ = some (.slice c1 (m.st.reverse).length ck)) := fun W hb => by rw [(x.kept hb).cell 7]; exact congrArg some hv
  have HStack : Hid (∀ W, Go.RowKit.Below w.heap.size w W → Calls Try.prog 35 #[pm B] W fun e w' => ∃ a k, e = .returned (.slice a (m.st.reverse).length k) ∧ w'.ownsRow W.heap.size 2 1 (.slice a (m.st.reverse).length k) (m.st.reverse).length ((m.st.reverse).map iv) ∧ Go.RowKit.Below W.heap.size W w') := fun W hb => stack_any W _ B Z L A R m (h1.kept hb).1 (by first | (simp; omega) | omega)
  obtain ⟨c1', ck', hv', _, _⟩ := own_slice x.locs
  have HCc' : Hid (CellsAt w c1' ((m.lo).map iv)) := by have := x.locs; rw [hv'] at this; exact own_read this
  have HCx' : Hid (∀ W, Go.RowKit.Below w.heap.size w W → W.cell? ⟨Br, 8, none⟩ = some (.slice c1' (m.lo).length ck')) := fun W hb => by rw [(x.kept hb).cell 8]; exact congrArg some hv'
  have HLocals : Hid (∀ W, Go.RowKit.Below w.heap.size w W → Calls Try.prog 36 #[pm B] W fun e w' => ∃ a k, e = .returned (.slice a (m.lo).length k) ∧ w'.ownsRow W.heap.size 2 1 (.slice a (m.lo).length k) (m.lo).length ((m.lo).map iv) ∧ Go.RowKit.Below W.heap.size W w') := fun W hb => locals_any W _ B Z L A R m (h1.kept hb).1 (by first | (simp; omega) | omega)
  have HN0 : Hid (m.lo.length ≤ 1000000) := hll
  have y0 := HCx.out w (Below.refl _ _)
  have HB0 : Hid (Go.RowKit.Below w.heap.size w w.drew) := ((Grew.refl w).drewN 1).below
  clear h1 hx hs hl hls hll x hv hv'
  generalize hS : m.st.reverse = S0 at *
  generalize hn : S0.length = n0 at HCx HStack y0
  clear hS hn
  generalize hS : m.lo = S at *
  generalize hn : S.length = n at HN0 HCx' HLocals
  have HN : Hid (n = S.length ∧ n ≤ 1000000) := ⟨hn.symm, HN0.out⟩
  clear hS hn HN0
  go_enter Try.func18, Try.ntmps18
  go_upto_region 12 with fail
  go_cut [9, 10, 11] (fun x y z wx => ∃ a1 ak b1 bk c1 ck, x = .slice a1 n0 ak ∧ y = .slice b1 n0 bk ∧ z = .slice c1 n0 ck ∧ Go.RowKit.Below w.heap.size w wx)
  case first =>
    go_region_held3 (fun w' => w'.cell? ⟨Br, 7, none⟩ = some (.slice c1 n0 ck)) (first | exact y2 | exact y1 | go_keep) (first
      | (go_at_call 35; refine (HStack.out _ HB1.out).mono ?_; rintro e w2 ⟨b1, bk, rfl, hb, hbel⟩; have HB2 : Hid (Go.RowKit.Below w.heap.size w w2) := HB1.out.trans (hbel.mono HB1.out.size); have HLs : Hid (LS w w2 n0 S0 (.slice a1 n0 ak) (.slice b1 n0 bk) c1) := ⟨HB2.out, ownsRow_same HA1.out (fun g hg => hbel.block g (World.ownsRow.lt HA1.out g hg).2), ownsRow_mono hb HB1.out.size, (fun g h1 h2 => by have := (World.ownsRow.lt HA1.out g h1).2; have := (World.ownsRow.lt hb g h2).1; omega), HCc.out⟩; have y2 := HCx.out w2 HB2.out; clear hb hbel)
      | (go_at_call 35; refine (HStack.out _ HB0.out).mono ?_; rintro e w1 ⟨a1, ak, rfl, ha, hbel⟩; have HB1 : Hid (Go.RowKit.Below w.heap.size w w1) := HB0.out.trans (hbel.mono HB0.out.size); have HA1 : Hid (w1.ownsRow w.heap.size 2 1 (.slice a1 n0 ak) n0 ((S0).map iv)) := ownsRow_mono ha HB0.out.size; have y1 := HCx.out w1 HB1.out; clear ha hbel))
    all_goals (
      go_wp2_with fail
      go_meet
      first | exact ⟨_, _, _, _, _, _, rfl, rfl, rfl, HLs.out.bel⟩ | exact ⟨_, _, _, _, _, _, rfl, rfl, rfl, HLs.out.bel⟩)
  case rest =>
    obtain ⟨_, _, _, _, _, _, rfl, rfl, rfl, hb⟩ := hcut
    clear y0 HB0 HCx HCc HStack
    have z0 := HCx'.out wc hb
    have HBc : Hid (Go.RowKit.Below w.heap.size w wc) := hb
    clear hb
    go_upto_region 14 with fail
    have HB0 : Hid (Go.RowKit.Below w.heap.size w wc.drew) := HBc.out.trans (((Grew.refl wc).drewN 1).below.mono HBc.out.size)
    go_cut [9, 10, 11] (fun x y z wx => ∃ a1 ak b1 bk c1 ck, x = .slice a1 n ak ∧ y = .slice b1 n bk ∧ z = .slice c1 n ck ∧ LS w wx n S (.slice a1 n ak) (.slice b1 n bk) c1)
    case first =>
      go_region_held3 (fun w' => w'.cell? ⟨Br, 8, none⟩ = some (.slice c1' n ck')) (first | exact y2 | exact y1 | go_keep) (first
        | (go_at_call 36; refine (HLocals.out _ HB1.out).mono ?_; rintro e w2 ⟨b1, bk, rfl, hb, hbel⟩; have HB2 : Hid (Go.RowKit.Below w.heap.size w w2) := HB1.out.trans (hbel.mono HB1.out.size); have HLs : Hid (LS w w2 n S (.slice a1 n ak) (.slice b1 n bk) c1') := ⟨HB2.out, ownsRow_same HA1.out (fun g hg => hbel.block g (World.ownsRow.lt HA1.out g hg).2), ownsRow_mono hb HB1.out.size, (fun g h1 h2 => by have := (World.ownsRow.lt HA1.out g h1).2; have := (World.ownsRow.lt hb g h2).1; omega), HCc'.out⟩; have y2 := HCx'.out w2 HB2.out; clear hb hbel)
        | (go_at_call 36; refine (HLocals.out _ HB0.out).mono ?_; rintro e w1 ⟨a1, ak, rfl, ha, hbel⟩; have HB1 : Hid (Go.RowKit.Below w.heap.size w w1) := HB0.out.trans (hbel.mono HB0.out.size); have HA1 : Hid (w1.ownsRow w.heap.size 2 1 (.slice a1 n ak) n ((S).map iv)) := ownsRow_mono ha HB0.out.size; have y1 := HCx'.out w1 HB1.out; clear ha hbel))
      all_goals (
        go_wp2_with fail
        go_meet
        first | exact ⟨_, _, _, _, _, _, rfl, rfl, rfl, HLs.out⟩ | exact ⟨_, _, _, _, _, _, rfl, rfl, rfl, HLs.out.swap⟩)
    case rest =>
      clear z0 HB0 HBc HCx' HCc' HLocals
      obtain ⟨a1, ak, b1, bk, c1, ck, rfl, rfl, rfl, hls⟩ := hcut
      have HL : Hid (LS w wc n S (.slice a1 n ak) (.slice b1 n bk) c1) := hls
      clear hls
      have HW1 := sameWords_eq wc a1 c1 n ak ck S (own_read HL.out.a) (HL.out.c.below HL.out.bel) HN.out.1 HN.out.2
      go_wp2_with fail
      refine HW1.mono ?_
      rintro e w1 ⟨rfl, hg⟩
      have HL1 : Hid (LS w w1 n S (.slice a1 n ak) (.slice b1 n bk) c1) := HL.out.kept hg.below
      clear hg HW1 HL
      have HW2 := sameWords_eq w1 b1 c1 n bk ck S (own_read HL1.out.b) (HL1.out.c.below HL1.out.bel) HN.out.1 HN.out.2
      go_wp2_with fail
      refine HW2.mono ?_
      rintro e w2 ⟨rfl, hg⟩
      have HL2 : Hid (LT w w2 n S (.slice a1 n ak) (.slice b1 n bk) c1) := (HL1.out.kept hg.below).lt
      clear hg HW2 HL1
      have hn2 := HN.out.2
      go_wp2_with fail
      go_loopw [12] (fun x wr => ∃ k : Nat, k ≤ n ∧ x = .int .i64 (k : Int) ∧ Hid (LT w wr n S (.slice a1 n ak) (.slice b1 n bk) c1)) (fun x _ => n - (intOf x).toNat)
      case atStart => exact ⟨0, Nat.zero_le _, rfl, HL2⟩
      case round =>
        clear HL2
        obtain ⟨k, hk, rfl, HL2⟩ := hrel
        by_cases hlt : k < n
        · obtain ⟨xs, hxs⟩ := HL2.out.a
          obtain ⟨g, cap', hv, _⟩ := own_some hxs (by omega)
          simp only [Value.slice.injEq] at hv
          obtain ⟨rfl, _, _⟩ := hv
          have cc := World.ownsRow.cellAt hxs k (by omega)
          obtain ⟨u, hu⟩ : ∃ u, xs[k]? = some u := ⟨_, List.getElem?_eq_getElem (by have := hxs.1; omega)⟩
          rw [hu] at cc
          have ff := World.ownsRow.frozenAt hxs k
          clear hxs hu
          go_wp2
          go_roundw
          case rel => exact ⟨k + 1, by omega, by go_num, HL2.out.set⟩
          case measure => simp [intOf]; omega
        · obtain rfl : n = k := by omega
          obtain ⟨xs, hxs⟩ := HL2.out.a
          have HA : Hid (wr.ownsRow w.heap.size 2 1 (.slice a1 n ak) n xs) := hxs
          clear hxs
          go_wp2_with (at_builtin; refine wpList_append_src rfl _ _ 25 2 jj0 (.int .i64 0) 1 8 Try.underlying25 ji jz0 jz1 jz2 rfl (by decide) rfl w.heap.size (.slice a1 n ak) n xs rfl (ownsRow_same HA.out (fun g hg => heap_alloc_old _ _ (World.ownsRow.lt HA.out g hg).2)) (some ⟨wr.heap.size, 0, none⟩) 1 1 [.int .i64 (-998)] rfl rfl (mk_new wr _ _) (fun e => by cases e) (by intro u hu; simp at hu; rw [hu]; rfl) (by unfold maxLen; omega) (by omega) (Nat.le_trans HL2.out.bel.size (bel_al _ _).size) ?_; intro v3 w3 h1 h2 h3; obtain ⟨g3, k3, hv3, hk3⟩ := own_some h1 (Nat.succ_pos _); subst hv3; have cc := World.ownsRow.cellAt h1 n (by omega); have HB3 : Hid (Go.RowKit.Below w.heap.size w w3 ∧ w3.ownsRow w.heap.size 2 1 (.slice b1 n bk) n (S.map iv)) := (LT.mk (HL2.out.bel.trans ((bel_al wr _).mono HL2.out.bel.size)) ⟨xs, ownsRow_same HA.out (fun g hg => heap_alloc_old _ _ (World.ownsRow.lt HA.out g hg).2)⟩ (ownsRow_same HL2.out.b (fun g hg => heap_alloc_old _ _ (World.ownsRow.lt HL2.out.b g hg).2)) HL2.out.ne HL2.out.c).app (ownsRow_same HA.out (fun g hg => heap_alloc_old _ _ (World.ownsRow.lt HA.out g hg).2)) h1 h2; rw [List.getElem?_append_right (by have := HA.out.1; omega), show n - xs.length = 0 by (have := HA.out.1; omega)] at cc; clear h1 h2 h3)
          have HW3 := sameWords_eq w3 b1 c1 n bk ck S (own_read HB3.out.2) (HL2.out.c.below HB3.out.1) HN.out.1 HN.out.2
          refine HW3.mono ?_
          rintro e w4 ⟨rfl, hg⟩
          have HB4 : Hid (Go.RowKit.Below w.heap.size w w4) := HB3.out.1.trans (hg.below.mono HB3.out.1.size)
          have cc4 : w4.cell? ⟨g3, n, none⟩ = some (.int .i64 (-998)) := by
            have h1 := hg.below.block g3 (cell_lt cc)
            simp only [World.cell?] at cc ⊢
            rw [h1]; exact cc
          clear hg HW3 cc
          go_wp2_with fail
          go_ret
          exact HX.out.asked HB4.out
end Go.Proofs.Ytbpgafchagpmoaa
/-
  asked: THE EFFECT; AND ALL.
-/
namespace Go.Proofs.Ytbpgafchagpmoaa
open Go.RowKit Go.Sort

theorem effN_small {p : Nums} {L : List K} {d : List Int} {m : M} (hs : Sound p L d) (hg : Good p L d m) : (effN L.length m).out.length ≤ 1000000 ∧ (effN L.length m).puts.length ≤ 1000000 := by
  have hl := (limB_iff p L.length).1 hs.lim
  unfold effN
  split
  · exact ⟨Nat.le_trans hg.ou (by omega), by show m.pu.length ≤ _; rw [hg.pu]; omega⟩
  · exact ⟨by decide, by decide⟩
theorem eff_own {w w' : World} {x : Ef} {e : Ending} (h : EffPost w x e w') : ∃ a1 k1 a2 k2, e = .returned (efR x a1 k1 a2 k2) ∧ EfAt w' w.heap.size (.slice a1 x.out.length k1) (.slice a2 x.puts.length k2) x := by
  obtain ⟨a1, l1, k1, a2, l2, k2, he, hr⟩ := h
  obtain ⟨_, rfl, rfl⟩ := hr.read
  exact ⟨a1, k1, a2, k2, he, hr⟩
set_option maxRecDepth 100000 in
set_option maxHeartbeats 4000000 in
theorem asked_effect (N : Nat) (w : World) (X : Nat → Prop) (B Br : Nat) (Z : MZ) (c : MC) (p : Nums) (L : List K) (d : List Int) (A : List Int) (R : List C) (m : M) (hx : Pr2 N w X B Br Z c p L d A R m) (hs : Sound p L d) :
    Calls Try.prog 18 #[pm B, pm Br, .int .i64 5] w fun e w' => AskPost N w X B Br Z c p L d A R e w' := by
  obtain ⟨P, Q, h1, h2, _⟩ := hx.ex
  have HX : Hid (Pr2 N w X B Br Z c p L d A R m) := hx
  have hl := (limB_iff p L.length).1 hs.lim
  have hpu : m.pu.length ≤ 1000 := by rw [hx.good.pu]; omega
  have hou : m.ou.length ≤ 1000 := Nat.le_trans hx.good.ou (by omega)
  obtain ⟨x, hxe⟩ : ∃ x, x = effN L.length m := ⟨_, rfl⟩
  have HSz : Hid (x.out.length ≤ 1000000 ∧ x.puts.length ≤ 1000000) := by rw [hxe]; exact effN_small hs hx.good
  have HC : Hid (∀ W, Go.RowKit.Below w.heap.size w W → Calls Try.prog 22 #[pm B] W fun e w' => ∃ a1 k1 a2 k2, e = .returned (efR x a1 k1 a2 k2) ∧ EfAt w' W.heap.size (.slice a1 x.out.length k1) (.slice a2 x.puts.length k2) x ∧ Go.RowKit.Below W.heap.size W w') := fun W hb => by
    obtain ⟨O, hh, hms, _, _⟩ := (h1.kept hb).1
    rw [hxe]
    refine (effect_ms W B O hh L A R m hms hpu hou).mono ?_
    rintro e w' ⟨h3, h4⟩
    obtain ⟨a1, k1, a2, k2, he, hr⟩ := eff_own h3
    exact ⟨a1, k1, a2, k2, he, hr, h4⟩
  have HR : Hid (∀ W, Go.RowKit.Below w.heap.size w W → Calls Try.prog 28 #[pm Br] W fun e w' => ∃ a1 k1 a2 k2, e = .returned (efR x a1 k1 a2 k2) ∧ EfAt w' W.heap.size (.slice a1 x.out.length k1) (.slice a2 x.puts.length k2) x ∧ Go.RowKit.Below W.heap.size W w') := fun W hb => by
    rw [hxe]
    refine (reffect_any W _ Br c (dnM L.length m) (h2.kept hb).1 hpu hou).mono ?_
    rintro e w' ⟨h3, h4⟩
    rw [effR_dn] at h3
    obtain ⟨a1, k1, a2, k2, he, hr⟩ := eff_own h3
    exact ⟨a1, k1, a2, k2, he, hr, h4⟩
  have HBw : Hid (Go.RowKit.Below w.heap.size w w) := Below.refl _ _
  clear h1 h2 hx hs hl hpu hou hxe
  go_enter Try.func18, Try.ntmps18
  go_wp2_with fail
  refine (HC.out _ HBw.out).mono ?_
  rintro e w1 ⟨a1, ak1, a2, ak2, rfl, he, hb⟩
  have hbA : Go.RowKit.Below w1.heap.size w1 (w1.alloc (eQ x.commit x.code x.user a1 x.out.length ak1 a2 x.puts.length ak2 (x.steps : Int))) := (Below.refl _ _).alloc (Nat.le_refl _) _
  have HSa : Hid (Go.RowKit.Below w.heap.size w (w1.alloc (eQ x.commit x.code x.user a1 x.out.length ak1 a2 x.puts.length ak2 (x.steps : Int)))) := hb.trans (hbA.mono hb.size)
  have HBWa : Hid (Go.RowKit.Below w.heap.size w (w1.alloc (eQ x.commit x.code x.user a1 x.out.length ak1 a2 x.puts.length ak2 (x.steps : Int)))) := HBw.out.trans (HSa.out.mono HBw.out.size)
  have HEa : Hid (EfAt (w1.alloc (eQ x.commit x.code x.user a1 x.out.length ak1 a2 x.puts.length ak2 (x.steps : Int))) w.heap.size (.slice a1 x.out.length ak1) (.slice a2 x.puts.length ak2) x) := he.still hbA
  have HTa : Hid (RE (w1.alloc (eQ x.commit x.code x.user a1 x.out.length ak1 a2 x.puts.length ak2 (x.steps : Int))) w1.heap.size (.bool x.commit) (.int .i64 x.code) (.int .i64 x.user) (.slice a1 x.out.length ak1) (.slice a2 x.puts.length ak2) (.int .i64 (x.steps : Int))) := RE.new _ _ _ _ _ _ _
  clear hbA hb he
  go_upto_region 25 with fail
  generalize w1.alloc (eQ x.commit x.code x.user a1 x.out.length ak1 a2 x.puts.length ak2 (x.steps : Int)) = Wa at *
  generalize w1.heap.size = ba at *
  go_wp2_with fail
  refine (HC.out _ HBWa.out).mono ?_
  rintro e w2 ⟨b1, bk1, b2, bk2, rfl, he, hb⟩
  have hbA : Go.RowKit.Below w2.heap.size w2 (w2.alloc (eQ x.commit x.code x.user b1 x.out.length bk1 b2 x.puts.length bk2 (x.steps : Int))) := (Below.refl _ _).alloc (Nat.le_refl _) _
  have HSb : Hid (Go.RowKit.Below Wa.heap.size Wa (w2.alloc (eQ x.commit x.code x.user b1 x.out.length bk1 b2 x.puts.length bk2 (x.steps : Int)))) := hb.trans (hbA.mono hb.size)
  have HBWb : Hid (Go.RowKit.Below w.heap.size w (w2.alloc (eQ x.commit x.code x.user b1 x.out.length bk1 b2 x.puts.length bk2 (x.steps : Int)))) := HBWa.out.trans (HSb.out.mono HBWa.out.size)
  have HEb : Hid (EfAt (w2.alloc (eQ x.commit x.code x.user b1 x.out.length bk1 b2 x.puts.length bk2 (x.steps : Int))) Wa.heap.size (.slice b1 x.out.length bk1) (.slice b2 x.puts.length bk2) x) := he.still hbA
  have HTb : Hid (RE (w2.alloc (eQ x.commit x.code x.user b1 x.out.length bk1 b2 x.puts.length bk2 (x.steps : Int))) w2.heap.size (.bool x.commit) (.int .i64 x.code) (.int .i64 x.user) (.slice b1 x.out.length bk1) (.slice b2 x.puts.length bk2) (.int .i64 (x.steps : Int))) := RE.new _ _ _ _ _ _ _
  clear hbA hb he
  go_upto_region 26 with fail
  generalize w2.alloc (eQ x.commit x.code x.user b1 x.out.length bk1 b2 x.puts.length bk2 (x.steps : Int)) = Wb at *
  generalize w2.heap.size = bb at *
  go_wp2_with fail
  refine (HR.out _ HBWb.out).mono ?_
  rintro e w3 ⟨c1, ck1, c2, ck2, rfl, he, hb⟩
  have hbA : Go.RowKit.Below w3.heap.size w3 (w3.alloc (eQ x.commit x.code x.user c1 x.out.length ck1 c2 x.puts.length ck2 (x.steps : Int))) := (Below.refl _ _).alloc (Nat.le_refl _) _
  have HSc : Hid (Go.RowKit.Below Wb.heap.size Wb (w3.alloc (eQ x.commit x.code x.user c1 x.out.length ck1 c2 x.puts.length ck2 (x.steps : Int)))) := hb.trans (hbA.mono hb.size)
  have HBWc : Hid (Go.RowKit.Below w.heap.size w (w3.alloc (eQ x.commit x.code x.user c1 x.out.length ck1 c2 x.puts.length ck2 (x.steps : Int)))) := HBWb.out.trans (HSc.out.mono HBWb.out.size)
  have HEc : Hid (EfAt (w3.alloc (eQ x.commit x.code x.user c1 x.out.length ck1 c2 x.puts.length ck2 (x.steps : Int))) Wb.heap.size (.slice c1 x.out.length ck1) (.slice c2 x.puts.length ck2) x) := he.still hbA
  have HTc : Hid (RE (w3.alloc (eQ x.commit x.code x.user c1 x.out.length ck1 c2 x.puts.length ck2 (x.steps : Int))) w3.heap.size (.bool x.commit) (.int .i64 x.code) (.int .i64 x.user) (.slice c1 x.out.length ck1) (.slice c2 x.puts.length ck2) (.int .i64 (x.steps : Int))) := RE.new _ _ _ _ _ _ _
  clear hbA hb he
  go_upto_region 27 with fail
  generalize w3.alloc (eQ x.commit x.code x.user c1 x.out.length ck1 c2 x.puts.length ck2 (x.steps : Int)) = Wc at *
  generalize w3.heap.size = bc at *
  have HBac : Hid (Go.RowKit.Below Wa.heap.size Wa Wc) := HSb.out.trans (HSc.out.mono HSb.out.size)
  have HEa5 : Hid (EfAt Wc w.heap.size (.slice a1 x.out.length ak1) (.slice a2 x.puts.length ak2) x) := HEa.out.still HBac.out
  have HEb5 : Hid (EfAt Wc Wa.heap.size (.slice b1 x.out.length bk1) (.slice b2 x.puts.length bk2) x) := HEb.out.still HSc.out
  have HTa5 : Hid (RE Wc ba (.bool x.commit) (.int .i64 x.code) (.int .i64 x.user) (.slice a1 x.out.length ak1) (.slice a2 x.puts.length ak2) (.int .i64 (x.steps : Int))) := HTa.out.below HBac.out HTa.out.lt
  have HTb5 : Hid (RE Wc bb (.bool x.commit) (.int .i64 x.code) (.int .i64 x.user) (.slice b1 x.out.length bk1) (.slice b2 x.puts.length bk2) (.int .i64 (x.steps : Int))) := HTb.out.below HSc.out HTb.out.lt
  have HOff : Hid (Off (.slice a1 x.out.length ak1) (.slice a2 x.puts.length ak2) b1 ∧ Off (.slice a1 x.out.length ak1) (.slice a2 x.puts.length ak2) b2 ∧ Off (.slice a1 x.out.length ak1) (.slice a2 x.puts.length ak2) c1 ∧ Off (.slice a1 x.out.length ak1) (.slice a2 x.puts.length ak2) c2) := ⟨off_later HEa.out.1 HEa.out.2 HEb.out.1 (Nat.le_refl _), off_later HEa.out.1 HEa.out.2 HEb.out.2 (Nat.le_refl _), off_later HEa.out.1 HEa.out.2 HEc.out.1 HSb.out.size, off_later HEa.out.1 HEa.out.2 HEc.out.2 HSb.out.size⟩
  clear HEa HEb HTa HTb HBac HSa HSb HSc HBWa HBWb HC HR
  obtain ⟨r0, r1, r2, r3, r4, r5⟩ := HTa5.out.cells
  obtain ⟨t0, t1, t2, t3, t4, t5⟩ := HTc.out.cells
  have HSe := sameEffect_eq Wc x a1 a2 c1 c2 ak1 ak2 ck1 ck2 HEa5.out.read.1 HEc.out.read.1 HSz.out.1 HSz.out.2
  go_wp2_with fail
  refine HSe.mono ?_
  rintro e w6 ⟨rfl, hb6⟩
  have HB6 : Hid (Go.RowKit.Below Wc.heap.size Wc w6) := hb6
  clear r0 r1 r2 r3 r4 r5 t0 t1 t2 t3 t4 t5 HSe hb6
  obtain ⟨r0, r1, r2, r3, r4, r5⟩ := (HTb5.out.below HB6.out HTb5.out.lt).cells
  obtain ⟨t0, t1, t2, t3, t4, t5⟩ := (HTc.out.below HB6.out HTc.out.lt).cells
  have HSe := sameEffect_eq w6 x b1 b2 c1 c2 bk1 bk2 ck1 ck2 (HEb5.out.still HB6.out).read.1 (HEc.out.still HB6.out).read.1 HSz.out.1 HSz.out.2
  go_wp2_with fail
  refine HSe.mono ?_
  rintro e w8 ⟨rfl, hb7⟩
  have HB8 : Hid (Go.RowKit.Below Wc.heap.size Wc w8) := HB6.out.trans (hb7.mono HB6.out.size)
  clear r0 r1 r2 r3 r4 r5 t0 t1 t2 t3 t4 t5 HSe hb7 HB6
  have HEa8 : Hid (EfAt w8 w.heap.size (.slice a1 x.out.length ak1) (.slice a2 x.puts.length ak2) x) := HEa5.out.still HB8.out
  have HAp := apart_g w8 x.commit x.code x.user (x.steps : Int) x.out.length x.puts.length x.out x.puts rfl rfl a1 a2 b1 b2 c1 c2 ak1 ak2 bk1 bk2 ck1 ck2 (ownsRow_mono HEa8.out.1 (Nat.zero_le _)) (ownsRow_mono HEa8.out.2 (Nat.zero_le _)) (HEb5.out.still HB8.out).read.1.1 (HEb5.out.still HB8.out).read.1.2 (HEc.out.still HB8.out).read.1.1 (HEc.out.still HB8.out).read.1.2 HOff.out.1 HOff.out.2.1 HOff.out.2.2.1 HOff.out.2.2.2 HSz.out.1 HSz.out.2
  obtain ⟨r0, r1, r2, r3, r4, r5⟩ := (HTa5.out.below HB8.out HTa5.out.lt).cells
  obtain ⟨s0, s1, s2, s3, s4, s5⟩ := (HTb5.out.below HB8.out HTb5.out.lt).cells
  obtain ⟨t0, t1, t2, t3, t4, t5⟩ := (HTc.out.below HB8.out HTc.out.lt).cells
  go_wp2_with fail
  refine HAp.mono ?_
  rintro e w9 ⟨rfl, hf9⟩
  have HB28 : Hid (Go.RowKit.Below w.heap.size w w8) := HBWc.out.trans (HB8.out.mono HBWc.out.size)
  have HB9 : Hid (Go.RowKit.Below w.heap.size w w9) := hf9.bel HB28.out (fun g hg => (World.ownsRow.lt HEa8.out.1 g hg).1) (fun g hg => (World.ownsRow.lt HEa8.out.2 g hg).1) HB28.out.size
  clear r0 r1 r2 r3 r4 r5 s0 s1 s2 s3 s4 s5 t0 t1 t2 t3 t4 t5 hf9 HAp
  go_wp2_with fail
  go_ret
  exact HX.out.asked HB9.out
theorem asked_any (N : Nat) (w : World) (X : Nat → Prop) (B Br : Nat) (Z : MZ) (c : MC) (p : Nums) (L : List K) (d : List Int) (A : List Int) (R : List C) (m : M) (k : Int) (hx : Pr2 N w X B Br Z c p L d A R m) (hc : Cst c p L d A R) (hk : 0 ≤ k) :
    Calls Try.prog 18 #[pm B, pm Br, .int .i64 k] w fun e w' => AskPost N w X B Br Z c p L d A R e w' := by
  by_cases h : 6 ≤ k
  · exact asked_none N w X B Br Z c p L d A R m k hx h
  · have h6 : k = 0 ∨ k = 1 ∨ k = 2 ∨ k = 3 ∨ k = 4 ∨ k = 5 := by omega
    rcases h6 with rfl | rfl | rfl | rfl | rfl | rfl
    · exact asked_step N w X B Br Z c p L d A R m hx hc
    · exact asked_done N w X B Br Z c p L d A R m hx
    · exact asked_at N w X B Br Z c p L d A R m hx
    · exact asked_stack N w X B Br Z c p L d A R m hx hc.s
    · exact asked_locals N w X B Br Z c p L d A R m hx hc.s
    · exact asked_effect N w X B Br Z c p L d A R m hx hc.s
end Go.Proofs.Ytbpgafchagpmoaa
/-
  THE WALK OF spoil.
-/
namespace Go.Proofs.Ytbpgafchagpmoaa
open Go.RowKit Go.Sort

/-- the state inside spoil -/
structure SPI (w W : World) (p : Nums) (n na nr g4 k4 g5 k5 g6 k6 : Nat) : Prop where
  fr : Fr (fun k => k < w.heap.size ∧ k ≠ g4 ∧ k ≠ g5 ∧ k ≠ g6) w W
  cb : CB W w.heap.size p (.slice (some ⟨g4, 0, none⟩) n k4) (.slice (some ⟨g5, 0, none⟩) na k5) (.slice (some ⟨g6, 0, none⟩) nr k6)
  r4 : ∃ xs, W.ownsRow 0 66 2 (.slice (some ⟨g4, 0, none⟩) n k4) n xs
  r5 : ∃ xs, W.ownsRow 0 2 1 (.slice (some ⟨g5, 0, none⟩) na k5) na xs
  r6 : ∃ xs, W.ownsRow 0 64 2 (.slice (some ⟨g6, 0, none⟩) nr k6) nr xs
section
variable {w W : World} {p : Nums} {n na nr g4 k4 g5 k5 g6 k6 : Nat}
theorem SPI.set {g e size m k : Nat} {ys : List Value} (h : SPI w W p n na nr g4 k4 g5 k5 g6 k6) (hr : W.ownsRow 0 e size (.slice (some ⟨g, 0, none⟩) m k) m ys) (he : e ≠ 28) (hg : g = g4 ∨ g = g5 ∨ g = g6) (j : Nat) (u : Value) : SPI w (W.setCell ⟨g, j, none⟩ u) p n na nr g4 k4 g5 k5 g6 k6 := by
  have hne : ∀ {e' size' m' k' g' : Nat} {zs : List Value}, W.ownsRow 0 e' size' (.slice (some ⟨g', 0, none⟩) m' k') m' zs → ∃ zs, (W.setCell ⟨g, j, none⟩ u).ownsRow 0 e' size' (.slice (some ⟨g', 0, none⟩) m' k') m' zs := by
    intro e' size' m' k' g' zs h'
    by_cases e1 : g' = g
    · subst e1
      exact ⟨_, (World.ownsRow.stored h' j u).1⟩
    · exact ⟨_, ownsRow_same h' (fun x hx => by cases hx; exact heap_setCell_other W ⟨g, j, none⟩ g' u e1)⟩
  refine ⟨h.fr.set _ _ (fun hf => ?_), h.cb.other u (own_neC hr h.cb he rfl).symm, ?_, ?_, ?_⟩
  · obtain ⟨_, q1, q2, q3⟩ := hf
    rcases hg with rfl | rfl | rfl
    · exact q1 rfl
    · exact q2 rfl
    · exact q3 rfl
  · obtain ⟨_, h'⟩ := h.r4; exact hne h'
  · obtain ⟨_, h'⟩ := h.r5; exact hne h'
  · obtain ⟨_, h'⟩ := h.r6; exact hne h'
end
theorem row_at {W : World} {base e size g n k : Nat} {xs : List Value} (h : W.ownsRow base e size (.slice (some ⟨g, 0, none⟩) n k) n xs) (j : Nat) (hj : j < n * size) : ∃ u, W.cell? ⟨g, j, none⟩ = some u := by
  rw [World.ownsRow.cellAt h j hj]
  exact ⟨_, List.getElem?_eq_getElem (by have := h.1; omega)⟩
set_option maxRecDepth 100000 in
set_option maxHeartbeats 4000000 in
theorem spoil_any (w : World) (p : Nums) (n na nr g4 k4 g5 k5 g6 k6 base : Nat) (x4 x5 x6 : List Value) (s4 : SL w base 66 2 g4 n k4 x4) (s5 : SL w base 2 1 g5 na k5 x5) (s6 : SL w base 64 2 g6 nr k6 x6) (l1 : n ≤ 140737488355328) (l2 : na ≤ 140737488355328) (l3 : nr ≤ 140737488355328) :
    Calls Try.prog 17 #[.agg (cP p (.slice (some ⟨g4, 0, none⟩) n k4) (.slice (some ⟨g5, 0, none⟩) na k5) (.slice (some ⟨g6, 0, none⟩) nr k6))] w fun e w' => e = .returned (.tuple #[]) ∧ Fr (fun k => k < w.heap.size ∧ k ≠ g4 ∧ k ≠ g5 ∧ k ≠ g6) w w' := by
  have cut : ∀ {e size g m k : Nat} {xs : List Value}, SL w base e size g m k xs → ∃ xs, w.ownsRow 0 e size (.slice (some ⟨g, 0, none⟩) m k) m xs := by
    intro e size g m k xs h
    refine ⟨xs.take (m * size), own_prefix (ys := xs.drop (m * size)) (nx := m + 1) ?_ ?_ (Nat.le_succ _)⟩
    · rw [List.take_append_drop]; exact ownsRow_mono h.2 (Nat.zero_le _)
    · rw [List.length_take, h.2.1, Nat.min_eq_left (Nat.mul_le_mul_right _ (Nat.le_succ _))]
  have ha : Go.RowKit.Below w.heap.size w (w.alloc (cQ p (.slice (some ⟨g4, 0, none⟩) n k4) (.slice (some ⟨g5, 0, none⟩) na k5) (.slice (some ⟨g6, 0, none⟩) nr k6))) := (Below.refl _ _).alloc (Nat.le_refl _) _
  have HS : Hid (SPI w (w.alloc (cQ p (.slice (some ⟨g4, 0, none⟩) n k4) (.slice (some ⟨g5, 0, none⟩) na k5) (.slice (some ⟨g6, 0, none⟩) nr k6))) p n na nr g4 k4 g5 k5 g6 k6) := by
    obtain ⟨y4, h4⟩ := cut s4
    obtain ⟨y5, h5⟩ := cut s5
    obtain ⟨y6, h6⟩ := cut s6
    exact ⟨Fr.ofBelow ha (fun _ h => h.1), heap_alloc_new _ _ rfl, ⟨_, ownsRow_same h4 (fun g hg => ha.block g (World.ownsRow.lt h4 g hg).2)⟩, ⟨_, ownsRow_same h5 (fun g hg => ha.block g (World.ownsRow.lt h5 g hg).2)⟩, ⟨_, ownsRow_same h6 (fun g hg => ha.block g (World.ownsRow.lt h6 g hg).2)⟩⟩
  have HK : Hid (n + 1 ≤ k4 ∧ na + 1 ≤ k5 ∧ nr + 1 ≤ k6) := ⟨s4.1, s5.1, s6.1⟩
  clear s4 s5 s6 cut ha
  go_enter Try.func17, Try.ntmps17
  go_wp2_with fail
  generalize w.alloc (cQ p (.slice (some ⟨g4, 0, none⟩) n k4) (.slice (some ⟨g5, 0, none⟩) na k5) (.slice (some ⟨g6, 0, none⟩) nr k6)) = W0 at *
  go_loopw [2] (fun x wr => ∃ k : Nat, k ≤ n ∧ x = .int .i64 (k : Int) ∧ Hid (SPI w wr p n na nr g4 k4 g5 k5 g6 k6)) (fun x _ => n - (intOf x).toNat)
  case atStart => exact ⟨0, Nat.zero_le _, rfl, HS⟩
  case round =>
    clear HS
    obtain ⟨k, hk, rfl, HS⟩ := hrel
    obtain ⟨_, _, _, _, y4, y5, y6⟩ := HS.out.cb.cells
    by_cases hlt : k < n
    · obtain ⟨xs, hxs⟩ := HS.out.r4
      have HR : Hid (wr.ownsRow 0 66 2 (.slice (some ⟨g4, 0, none⟩) n k4) n xs) := hxs
      obtain ⟨u1, c1⟩ := row_at hxs (k * 2) (by omega)
      obtain ⟨u2, c2⟩ := row_at hxs (k * 2 + 1) (by omega)
      have f1 := World.ownsRow.frozenAt hxs (k * 2)
      have f2 := World.ownsRow.frozenAt hxs (k * 2 + 1)
      have HE : Hid (SPI w ((wr.setCell ⟨g4, k * 2, none⟩ (.int .i64 36)).setCell ⟨g4, k * 2 + 1, none⟩ (.int .i64 0)) p n na nr g4 k4 g5 k5 g6 k6) := (HS.out.set HR.out (by decide) (.inl rfl) _ _).set (World.ownsRow.stored HR.out _ _).1 (by decide) (.inl rfl) _ _
      clear hxs
      go_wp2
      go_roundw
      case rel => exact ⟨k + 1, by omega, by go_num, HE⟩
      case measure => simp [intOf]; omega
    · obtain rfl : n = k := by omega
      go_wp2_with fail
      clear y4 y5 y6
      go_loopw [3] (fun x wr => ∃ k : Nat, k ≤ na ∧ x = .int .i64 (k : Int) ∧ Hid (SPI w wr p n na nr g4 k4 g5 k5 g6 k6)) (fun x _ => na - (intOf x).toNat)
      case atStart => exact ⟨0, Nat.zero_le _, rfl, HS⟩
      case round =>
        clear HS
        obtain ⟨k, hk, rfl, HS⟩ := hrel
        obtain ⟨_, _, _, _, y4, y5, y6⟩ := HS.out.cb.cells
        by_cases hlt : k < na
        · obtain ⟨xs, hxs⟩ := HS.out.r5
          have HR : Hid (wr.ownsRow 0 2 1 (.slice (some ⟨g5, 0, none⟩) na k5) na xs) := hxs
          obtain ⟨u1, c1⟩ := row_at hxs k (by omega)
          have f1 := World.ownsRow.frozenAt hxs k
          have HE : Hid (SPI w (wr.setCell ⟨g5, k, none⟩ (.int .i64 1234567)) p n na nr g4 k4 g5 k5 g6 k6) := HS.out.set HR.out (by decide) (.inr (.inl rfl)) _ _
          clear hxs
          go_wp2
          go_roundw
          case rel => exact ⟨k + 1, by omega, by go_num, HE⟩
          case measure => simp [intOf]; omega
        · obtain rfl : na = k := by omega
          go_wp2_with fail
          clear y4 y5 y6
          go_loopw [4] (fun x wr => ∃ k : Nat, k ≤ nr ∧ x = .int .i64 (k : Int) ∧ Hid (SPI w wr p n na nr g4 k4 g5 k5 g6 k6)) (fun x _ => nr - (intOf x).toNat)
          case atStart => exact ⟨0, Nat.zero_le _, rfl, HS⟩
          case round =>
            clear HS
            obtain ⟨k, hk, rfl, HS⟩ := hrel
            obtain ⟨_, _, _, _, y4, y5, y6⟩ := HS.out.cb.cells
            by_cases hlt : k < nr
            · obtain ⟨xs, hxs⟩ := HS.out.r6
              have HR : Hid (wr.ownsRow 0 64 2 (.slice (some ⟨g6, 0, none⟩) nr k6) nr xs) := hxs
              obtain ⟨u1, c1⟩ := row_at hxs (k * 2) (by omega)
              obtain ⟨u2, c2⟩ := row_at hxs (k * 2 + 1) (by omega)
              have f1 := World.ownsRow.frozenAt hxs (k * 2)
              have f2 := World.ownsRow.frozenAt hxs (k * 2 + 1)
              have HE : Hid (SPI w ((wr.setCell ⟨g6, k * 2, none⟩ (.bool true)).setCell ⟨g6, k * 2 + 1, none⟩ (.int .i64 7654321)) p n na nr g4 k4 g5 k5 g6 k6) := (HS.out.set HR.out (by decide) (.inr (.inr rfl)) _ _).set (World.ownsRow.stored HR.out _ _).1 (by decide) (.inr (.inr rfl)) _ _
              clear hxs
              go_wp2
              go_roundw
              case rel => exact ⟨k + 1, by omega, by go_num, HE⟩
              case measure => simp [intOf]; omega
            · obtain rfl : nr = k := by omega
              go_wp2
              go_end0
              exact ⟨rfl, HS.out.fr⟩
end Go.Proofs.Ytbpgafchagpmoaa
/-
  VmSteps: WHAT LIES IN MEMORY.
-/
namespace Go.Proofs.Ytbpgafchagpmoaa
open Go.RowKit Go.Sort

/-- a call's parts -/
structure CD where
  p : Nums
  ao : Option Addr
  n : Nat
  cap : Nat
  L : List K
  aa : Option Addr
  na : Nat
  ca : Nat
  A : List Int
  ra : Option Addr
  nr : Nat
  cr : Nat
  R : List C
def CD.mc (D : CD) : MC := ⟨D.p, D.ao, D.n, D.cap, D.aa, D.na, D.ca, D.ra, D.nr, D.cr⟩
abbrev CD.In (D : CD) (w : World) : Prop := CallIn w D.p D.ao D.n D.cap D.L D.aa D.na D.ca D.A D.ra D.nr D.cr D.R
/-- a slot: nothing, or a pair -/
def Sl2 (N : Nat) (W : World) (X : Nat → Prop) (D : CD) (v vr : Value) : Prop :=
  (v = .pointer none ∧ vr = .pointer none ∧ ∀ k, ¬ X k) ∨ ∃ B Br Z d m, v = pm B ∧ vr = pm Br ∧ Cst D.mc D.p D.L d D.A D.R ∧ Pr2 N W X B Br Z D.mc D.p D.L d D.A D.R m
theorem Sl2.fr {N : Nat} {w w1 : World} {X Y : Nat → Prop} {D : CD} {v vr : Value} (x : Sl2 N w X D v vr) (hb : Fr (Cp w Y) w w1) (hd : ∀ k, X k → ¬ Y k) (hY : ∀ k, Y k → N ≤ k) : Sl2 N w1 X D v vr := by
  rcases x with x | ⟨B, Br, Z, d, m, h1, h2, h3, h4⟩
  · exact .inl x
  · exact .inr ⟨B, Br, Z, d, m, h1, h2, h3, h4.fr hb hd hY⟩
def upd {α : Type} (f : Nat → α) (i : Nat) (x : α) : Nat → α := fun j => if j = i then x else f j
theorem upd_same {α : Type} (f : Nat → α) (i : Nat) (x : α) : upd f i x i = x := if_pos rfl
theorem upd_other {α : Type} (f : Nat → α) {i j : Nat} (x : α) (h : j ≠ i) : upd f i x j = f j := if_neg h
abbrev callO (D : CD) : List Value := [.int .i64 D.p.args, .int .i64 D.p.reads, .int .i64 D.p.writes, .int .i64 D.p.locals, .slice D.ao D.n D.cap, .slice D.aa D.na D.ca, .slice D.ra D.nr D.cr]
structure VS (w W : World) (Ds : Nat → CD) (vs rf : Nat → Value) (Xs : Nat → Nat → Prop) : Prop where
  bel : Go.RowKit.Below w.heap.size w W
  both : W.heap[w.heap.size + 1 + 1]? = some (.cells (callO (Ds 0) ++ callO (Ds 1)).toArray 43 (0, 0))
  ms : W.heap[w.heap.size + 1 + 1 + 1]? = some (.cells #[vs 0, vs 1] 45 (0, 0))
  rs : W.heap[w.heap.size + 1 + 1 + 1 + 1]? = some (.cells #[rf 0, rf 1] 47 (0, 0))
  s : ∀ i, i < 2 → Sl2 w.heap.size W (Xs i) (Ds i) (vs i) (rf i)
  dj : ∀ i j k, i < 2 → j < 2 → i ≠ j → Xs i k → ¬ Xs j k
  lo : ∀ i k, i < 2 → Xs i k → w.heap.size + 5 ≤ k ∧ k < W.heap.size
  big : w.heap.size + 5 ≤ W.heap.size
section
variable {w W W' : World} {Ds : Nat → CD} {vs rf : Nat → Value} {Xs : Nat → Nat → Prop}
theorem VS.step (x : VS w W Ds vs rf Xs) {i : Nat} (hi : i < 2) (hf : Fr (Cp W (Xs i)) W W') {X' : Nat → Prop} (hX : ∀ k, X' k → Xs i k ∨ W.heap.size ≤ k) (hlt : ∀ k, X' k → k < W'.heap.size) (hs : Sl2 w.heap.size W' X' (Ds i) (vs i) (rf i)) : VS w W' Ds vs rf (upd Xs i X') := by
  have hb := x.big
  have lo := x.lo i
  have hsz := hf.size
  have hout : ∀ k, k < w.heap.size + 5 → W'.heap[k]? = W.heap[k]? := fun k hk => hf.block k ⟨by omega, fun h => by have := (lo k hi h).1; omega⟩
  refine ⟨⟨hf.os.trans x.bel.os, hf.tape.trans x.bel.tape, hf.output.trans x.bel.output, Nat.le_trans x.bel.size hf.size, fun k hk => (hout k (by omega)).trans (x.bel.block k hk)⟩, (hout _ (by omega)).trans x.both, (hout _ (by omega)).trans x.ms, (hout _ (by omega)).trans x.rs, ?_, ?_, ?_, by omega⟩
  · intro j hj
    by_cases e : j = i
    · subst e; rw [upd_same]; exact hs
    · rw [upd_other _ _ e]
      exact (x.s j hj).fr hf (fun k h1 h2 => x.dj j i k hj hi e h1 h2) (fun k h => by have := (lo k hi h).1; omega)
  · intro a b k ha hb' hab h1 h2
    by_cases ea : a = i
    · subst ea
      rw [upd_same] at h1
      rw [upd_other _ _ (fun e => hab e.symm)] at h2
      rcases hX k h1 with h | h
      · exact x.dj a b k hi hb' hab h h2
      · have := (x.lo b k hb' h2).2; omega
    · rw [upd_other _ _ ea] at h1
      by_cases eb : b = i
      · subst eb
        rw [upd_same] at h2
        rcases hX k h2 with h | h
        · exact x.dj a b k ha hi hab h1 h
        · have := (x.lo a k ha h1).2; omega
      · rw [upd_other _ _ eb] at h2
        exact x.dj a b k ha hb' hab h1 h2
  · intro a k ha h
    by_cases ea : a = i
    · subst ea
      rw [upd_same] at h
      refine ⟨?_, hlt k h⟩
      rcases hX k h with h' | h'
      · exact (lo k hi h').1
      · omega
    · rw [upd_other _ _ ea] at h
      have := x.lo a k ha h
      exact ⟨this.1, by omega⟩
theorem VS.kept (x : VS w W Ds vs rf Xs) (hb : Go.RowKit.Below W.heap.size W W') : VS w W' Ds vs rf Xs := by
  have hbg := x.big
  have hsz := hb.size
  exact ⟨x.bel.trans (hb.mono x.bel.size), (hb.block _ (by omega)).trans x.both, (hb.block _ (by omega)).trans x.ms, (hb.block _ (by omega)).trans x.rs, fun i hi => (x.s i hi).fr (Y := fun _ => False) (fr_none hb) (fun _ _ h => h) (fun _ h => h.elim), x.dj, fun i k hi h => ⟨(x.lo i k hi h).1, by have := (x.lo i k hi h).2; omega⟩, by omega⟩
theorem VS.cells (x : VS w W Ds vs rf Xs) {k : Nat} (hk : k < 2) : W.cell? ⟨w.heap.size + 1 + 1 + 1, k, none⟩ = some (vs k) ∧ W.cell? ⟨w.heap.size + 1 + 1 + 1 + 1, k, none⟩ = some (rf k) := by
  rcases (show k = 0 ∨ k = 1 by omega) with rfl | rfl <;> exact ⟨by simp [World.cell?, x.ms], by simp [World.cell?, x.rs]⟩
theorem VS.call (x : VS w W Ds vs rf Xs) {k : Nat} (hk : k < 2) : W.cell? ⟨w.heap.size + 1 + 1, k * 7, none⟩ = some (.int .i64 (Ds k).p.args) ∧ W.cell? ⟨w.heap.size + 1 + 1, k * 7 + 1, none⟩ = some (.int .i64 (Ds k).p.reads) ∧ W.cell? ⟨w.heap.size + 1 + 1, k * 7 + 2, none⟩ = some (.int .i64 (Ds k).p.writes) ∧ W.cell? ⟨w.heap.size + 1 + 1, k * 7 + 3, none⟩ = some (.int .i64 (Ds k).p.locals) ∧ W.cell? ⟨w.heap.size + 1 + 1, k * 7 + 4, none⟩ = some (.slice (Ds k).ao (Ds k).n (Ds k).cap) ∧ W.cell? ⟨w.heap.size + 1 + 1, k * 7 + 5, none⟩ = some (.slice (Ds k).aa (Ds k).na (Ds k).ca) ∧ W.cell? ⟨w.heap.size + 1 + 1, k * 7 + 6, none⟩ = some (.slice (Ds k).ra (Ds k).nr (Ds k).cr) := by
  rcases (show k = 0 ∨ k = 1 by omega) with rfl | rfl <;> refine ⟨?_, ?_, ?_, ?_, ?_, ?_, ?_⟩ <;> simp [World.cell?, x.both]
/-- an answer of the pair of slot i -/
theorem VS.ask (x : VS w W Ds vs rf Xs) {i : Nat} (hi : i < 2) (hn : rf i ≠ .pointer none) (a : Int) (ha : 0 ≤ a) :
    Calls Try.prog 18 #[vs i, rf i, .int .i64 a] W fun e w' => e = .returned (.bool true) ∧ ∃ Xs', VS w w' Ds vs rf Xs' := by
  rcases x.s i hi with ⟨_, h, _⟩ | ⟨B, Br, Z, d, m, h1, h2, h3, h4⟩
  · exact absurd h hn
  · rw [h1, h2]
    refine (asked_any w.heap.size W (Xs i) B Br Z (Ds i).mc (Ds i).p (Ds i).L d (Ds i).A (Ds i).R m a h4 h3 ha).mono ?_
    rintro e w' ⟨he, m', X', hp, hf, hX⟩
    exact ⟨he, _, x.step hi hf hX (fun k hk => (hp.lt k hk).2) (.inr ⟨B, Br, Z, d, m', h1, h2, h3, hp⟩)⟩
/-- slot i is filled -/
theorem VS.fill (x : VS w W Ds vs rf Xs) {i : Nat} (hi : i < 2) {W6 : World} (hb : Go.RowKit.Below W.heap.size W W6) {X' : Nat → Prop} (hX : ∀ k, X' k → W.heap.size ≤ k ∧ k < W6.heap.size) {v vr : Value} (hs : Sl2 w.heap.size W6 X' (Ds i) v vr) :
    VS w ((W6.setCell ⟨w.heap.size + 1 + 1 + 1, i, none⟩ v).setCell ⟨w.heap.size + 1 + 1 + 1 + 1, i, none⟩ vr) Ds (upd vs i v) (upd rf i vr) (upd Xs i X') := by
  have y := x.kept hb
  have hbg := x.big
  have hsz := hb.size
  have hf : Fr (Cp W6 (fun k => k = w.heap.size + 1 + 1 + 1 ∨ k = w.heap.size + 1 + 1 + 1 + 1)) W6 ((W6.setCell ⟨w.heap.size + 1 + 1 + 1, i, none⟩ v).setCell ⟨w.heap.size + 1 + 1 + 1 + 1, i, none⟩ vr) :=
    ((Fr.refl _ W6).set _ _ (fun h => h.2 (.inl rfl))).set _ _ (fun h => h.2 (.inr rfl))
  have hout : ∀ k, k < W6.heap.size → k ≠ w.heap.size + 1 + 1 + 1 → k ≠ w.heap.size + 1 + 1 + 1 + 1 → ((W6.setCell ⟨w.heap.size + 1 + 1 + 1, i, none⟩ v).setCell ⟨w.heap.size + 1 + 1 + 1 + 1, i, none⟩ vr).heap[k]? = W6.heap[k]? := fun k hk h1 h2 => hf.block k ⟨hk, fun h => h.elim h1 h2⟩
  have i2 : i = 0 ∨ i = 1 := by omega
  refine ⟨⟨hf.os.trans y.bel.os, hf.tape.trans y.bel.tape, hf.output.trans y.bel.output, Nat.le_trans y.bel.size hf.size, fun k hk => (hout k (by omega) (by omega) (by omega)).trans (y.bel.block k hk)⟩, (hout _ (by omega) (by omega) (by omega)).trans y.both, ?_, ?_, ?_, ?_, ?_, Nat.le_trans (by omega) hf.size⟩
  · rw [heap_setCell_other _ _ _ _ (by show w.heap.size + 1 + 1 + 1 ≠ w.heap.size + 1 + 1 + 1 + 1; omega), heap_setCell_same W6 _ i _ _ v y.ms]
    rcases i2 with rfl | rfl <;> simp [upd]
  · rw [heap_setCell_same _ _ i _ _ vr ((heap_setCell_other _ _ _ _ (by show w.heap.size + 1 + 1 + 1 + 1 ≠ w.heap.size + 1 + 1 + 1; omega)).trans y.rs)]
    rcases i2 with rfl | rfl <;> simp [upd]
  · intro j hj
    by_cases e : j = i
    · subst e
      rw [upd_same, upd_same, upd_same]
      exact hs.fr hf (fun k h1 h2 => by have := (hX k h1).1; omega) (fun k h => by omega)
    · rw [upd_other _ _ e, upd_other _ _ e, upd_other _ _ e]
      exact (y.s j hj).fr hf (fun k h1 h2 => by have := (y.lo j k hj h1).1; omega) (fun k h => by omega)
  · intro a b k ha hb' hab h1 h2
    by_cases ea : a = i
    · subst ea
      rw [upd_same] at h1
      rw [upd_other _ _ (fun e => hab e.symm)] at h2
      have := (hX k h1).1; have := (x.lo b k hb' h2).2; omega
    · rw [upd_other _ _ ea] at h1
      by_cases eb : b = i
      · subst eb
        rw [upd_same] at h2
        have := (hX k h2).1; have := (x.lo a k ha h1).2; omega
      · rw [upd_other _ _ eb] at h2
        exact x.dj a b k ha hb' hab h1 h2
  · intro a k ha h
    by_cases ea : a = i
    · subst ea
      rw [upd_same] at h
      have := hX k h
      exact ⟨by omega, Nat.lt_of_lt_of_le this.2 hf.size⟩
    · rw [upd_other _ _ ea] at h
      have := y.lo a k ha h
      exact ⟨this.1, Nat.lt_of_lt_of_le this.2 hf.size⟩
end
/-- two machines are made -/
theorem pair_made {w W0 W2 W3 W4 W5 W6 : World} {D : CD} {B Br g4 g5 g6 : Nat} {Z : MZ} {d : List Int} (hin : D.In w) (h0 : Go.RowKit.Below w.heap.size w W0) (h02 : Go.RowKit.Below W0.heap.size W0 W2) (h3 : MSt W3 (fun k => k < W2.heap.size) B Z D.L D.A D.R (startM D.p)) (h23 : Go.RowKit.Below W2.heap.size W2 W3)
    (h4 : MRt W4 (fun k => k < W3.heap.size) Br D.mc (dnM D.L.length (startM D.p))) (h34 : Go.RowKit.Below W3.heap.size W3 W4) (h45 : Go.RowKit.Below W4.heap.size W4 W5) (h56 : Fr (fun k => k < W5.heap.size ∧ k ≠ g4 ∧ k ≠ g5 ∧ k ≠ g6) W5 W6) (q4 : W0.heap.size ≤ g4 ∧ g4 < W2.heap.size) (q5 : W0.heap.size ≤ g5 ∧ g5 < W2.heap.size) (q6 : W0.heap.size ≤ g6 ∧ g6 < W2.heap.size) (hs : Sound D.p D.L d) :
    Pr2 w.heap.size W6 (fun k => W2.heap.size ≤ k ∧ k < W4.heap.size) B Br Z D.mc D.p D.L d D.A D.R (startM D.p) := by
  have s0 := h0.size; have s2 := h02.size; have s3 := h23.size; have s4 := h34.size; have s5 := h45.size; have s6 := h56.size
  have b46 : ∀ k, k < W4.heap.size → k ≠ g4 → k ≠ g5 → k ≠ g6 → W6.heap[k]? = W4.heap[k]? := fun k hk a b c => (h56.block k ⟨by omega, a, b, c⟩).trans (h45.block k hk)
  have p3 : MSt W3 (Cp W3 (fun k => W2.heap.size ≤ k ∧ k < W3.heap.size)) B Z D.L D.A D.R (startM D.p) := h3.mono fun k hk => by
    obtain ⟨a, b⟩ := hk
    exact Nat.lt_of_not_le fun h => b ⟨h, a⟩
  have p4 : MRt W4 (Cp W4 (fun k => W3.heap.size ≤ k ∧ k < W4.heap.size)) Br D.mc (dnM D.L.length (startM D.p)) := h4.mono fun k hk => by
    obtain ⟨a, b⟩ := hk
    exact Nat.lt_of_not_le fun h => b ⟨h, a⟩
  have hw6 : Fr (fun k => k < w.heap.size) w W6 := by
    refine ⟨h56.os.trans (h45.os.trans (h34.os.trans (h23.os.trans (h02.os.trans h0.os)))), h56.tape.trans (h45.tape.trans (h34.tape.trans (h23.tape.trans (h02.tape.trans h0.tape)))), h56.output.trans (h45.output.trans (h34.output.trans (h23.output.trans (h02.output.trans h0.output)))), by omega, fun k hk => ?_⟩
    rw [b46 k (by omega) (by omega) (by omega) (by omega), h34.block k (by omega), h23.block k (by omega), h02.block k (by omega), h0.block k hk]
  refine ⟨⟨_, _, p3.sameP (w1 := W6) (fun k hk hp => ?_) (by omega), p4.sameP (w1 := W6) (fun k hk hp => ?_) (by omega), fun k hk => ⟨hk.1, by omega⟩, fun k hk => ⟨by omega, hk.2⟩, fun k h1 h2 => by omega⟩, fun k hk => ⟨by omega, by omega⟩, by omega, (hin.giv (fun k => k < w.heap.size) (fun _ h => h)).next hw6, good_start hs, fits_start _⟩
  · rw [b46 k (by omega) (by omega) (by omega) (by omega), h34.block k hk]
  · exact b46 k hk (by omega) (by omega) (by omega)
end Go.Proofs.Ytbpgafchagpmoaa
