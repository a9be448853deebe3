/-
  SOURCE: the document's blank, digit, letter, wordly. By gen_srref.py.
-/
import Derived.Test.YtlabofafmcbfmaaGreatDoorSrFr
namespace Go.Proofs.YtlabofafmcbfmaaGreatDoor
open Go.RowKit Go.Sort

set_option maxRecDepth 100000 in
theorem rblank_any (w : World) (c : Nat) (_hc : c ≤ 255) : Calls Tryz.prog 22 #[.int .u8 (c : Int)] w fun e w' => e = .returned (.bool (blC c)) ∧ w' = w := by
  unfold blC
  by_cases h32 : c = 32
  · subst h32
    go_enter Tryz.func22, Tryz.ntmps22
    go_wp2
    go_ret
    exact ⟨rfl, rfl⟩
  by_cases h9 : c = 9
  · subst h9
    go_enter Tryz.func22, Tryz.ntmps22
    go_wp2
    go_ret
    exact ⟨rfl, rfl⟩
  by_cases h13 : c = 13
  · subst h13
    go_enter Tryz.func22, Tryz.ntmps22
    go_wp2
    go_ret
    exact ⟨rfl, rfl⟩
  by_cases h10 : c = 10
  · subst h10
    go_enter Tryz.func22, Tryz.ntmps22
    go_wp2
    go_ret
    exact ⟨rfl, rfl⟩
  have q1 : ((c : Int) == 32) = false := by simp; omega
  have q2 : ((c : Int) == 9) = false := by simp; omega
  have q3 : ((c : Int) == 13) = false := by simp; omega
  have q4 : ((c : Int) == 10) = false := by simp; omega
  rw [show (decide (c = 32) || decide (c = 9) || decide (c = 13) || decide (c = 10)) = false by simp [h32, h9, h13, h10]]
  clear h32 h9 h13 h10
  go_enter Tryz.func22, Tryz.ntmps22
  go_wp2
  go_ret
  exact ⟨rfl, rfl⟩
set_option maxRecDepth 100000 in
theorem rdigit_any (w : World) (c : Nat) (_hc : c ≤ 255) : Calls Tryz.prog 12 #[.int .u8 (c : Int)] w fun e w' => e = .returned (.bool (diC c)) ∧ w' = w := by
  have q1 : decide ((c : Int) ≥ 48) = decide (48 ≤ c) := by simp; omega
  have q2 : decide ((c : Int) ≤ 57) = decide (c ≤ 57) := by simp; omega
  unfold diC
  by_cases h1 : 48 ≤ c
  · have p1 : (c : Int) ≥ 48 := by omega
    rw [decide_eq_true h1]
    by_cases h2 : c ≤ 57
    · have p2 : (c : Int) ≤ 57 := by omega
      rw [decide_eq_true h2]
      clear q1 q2 h1 h2
      go_enter Tryz.func12, Tryz.ntmps12
      go_wp2
      go_ret
      exact ⟨rfl, rfl⟩
    · have p2 : ¬ (c : Int) ≤ 57 := by omega
      rw [decide_eq_false h2]
      clear q1 q2 h1 h2
      go_enter Tryz.func12, Tryz.ntmps12
      go_wp2
      go_ret
      exact ⟨rfl, rfl⟩
  · have p1 : ¬ (c : Int) ≥ 48 := by omega
    rw [decide_eq_false h1]
    clear q1 q2 h1
    go_enter Tryz.func12, Tryz.ntmps12
    go_wp2
    go_ret
    exact ⟨by simp, rfl⟩
set_option maxRecDepth 100000 in
theorem rletter_any (w : World) (c : Nat) (_hc : c ≤ 255) : Calls Tryz.prog 23 #[.int .u8 (c : Int)] w fun e w' => e = .returned (.bool (leC c)) ∧ w' = w := by
  by_cases h1 : 97 ≤ c
  · have p1 : (c : Int) ≥ 97 := by omega
    by_cases h2 : c ≤ 122
    · have p2 : (c : Int) ≤ 122 := by omega
      have e : leC c = true := by simp [leC, h1, h2]
      rw [e]
      clear h1 h2 e
      go_enter Tryz.func23, Tryz.ntmps23
      go_wp2
      go_ret
      exact ⟨rfl, rfl⟩
    · have p2 : ¬ (c : Int) ≤ 122 := by omega
      have p3 : (c : Int) ≥ 65 := by omega
      have p4 : ¬ (c : Int) ≤ 90 := by omega
      have e : leC c = false := by simp [leC]; omega
      rw [e]
      clear h1 h2 e
      go_enter Tryz.func23, Tryz.ntmps23
      go_wp2
      go_ret
      exact ⟨rfl, rfl⟩
  · have p1 : ¬ (c : Int) ≥ 97 := by omega
    by_cases h2 : 65 ≤ c
    · have p3 : (c : Int) ≥ 65 := by omega
      by_cases h3 : c ≤ 90
      · have p4 : (c : Int) ≤ 90 := by omega
        have e : leC c = true := by simp [leC, h2, h3]
        rw [e]
        clear h1 h2 h3 e
        go_enter Tryz.func23, Tryz.ntmps23
        go_wp2
        go_ret
        exact ⟨rfl, rfl⟩
      · have p4 : ¬ (c : Int) ≤ 90 := by omega
        have e : leC c = false := by simp [leC]; omega
        rw [e]
        clear h1 h2 h3 e
        go_enter Tryz.func23, Tryz.ntmps23
        go_wp2
        go_ret
        exact ⟨rfl, rfl⟩
    · have p3 : ¬ (c : Int) ≥ 65 := by omega
      have e : leC c = false := by simp [leC]; omega
      rw [e]
      clear h1 h2 e
      go_enter Tryz.func23, Tryz.ntmps23
      go_wp2
      go_ret
      exact ⟨rfl, rfl⟩
set_option maxRecDepth 100000 in
theorem rwordly_any (w : World) (c : Nat) (hc : c ≤ 255) : Calls Tryz.prog 10 #[.int .u8 (c : Int)] w fun e w' => e = .returned (.bool (woC c)) ∧ w' = w := by
  have HL := hidS (rletter_any w c hc)
  have HD := hidS (rdigit_any w c hc)
  unfold woC
  generalize leC c = a at *
  generalize diC c = b at *
  by_cases h : c = 95
  · rw [decide_eq_true h]
    have q : (c : Int) = 95 := by omega
    rw [q] at HL HD ⊢
    clear h q hc
    cases a <;> cases b
    all_goals
      go_enter Tryz.func10, Tryz.ntmps10
      go_wp2_with (first | (go_at_call 23; refine HL.out.mono ?_; rintro e wE ⟨rfl, hwE⟩; have hwE' := hwE.symm; subst hwE'; clear hwE) | (go_at_call 12; refine HD.out.mono ?_; rintro e wE ⟨rfl, hwE⟩; have hwE' := hwE.symm; subst hwE'; clear hwE))
      go_ret
      exact ⟨rfl, rfl⟩
  · rw [decide_eq_false h]
    have q : ((c : Int) == 95) = false := by simp; omega
    clear h hc
    cases a <;> cases b
    all_goals
      go_enter Tryz.func10, Tryz.ntmps10
      go_wp2_with (first | (go_at_call 23; refine HL.out.mono ?_; rintro e wE ⟨rfl, hwE⟩; have hwE' := hwE.symm; subst hwE'; clear hwE) | (go_at_call 12; refine HD.out.mono ?_; rintro e wE ⟨rfl, hwE⟩; have hwE' := hwE.symm; subst hwE'; clear hwE))
      go_ret
      exact ⟨rfl, rfl⟩
end Go.Proofs.YtlabofafmcbfmaaGreatDoor
