/-
  CHORES: ended, notEnded, Ready, Step, Left.
-/
import Derived.Test.YteobmijfbjgccaaZMem
namespace Go.Proofs.Yteobmijfbjgccaa
open Go.RowKit Go.Sort

section
variable {w : World} {n : Nat} {cb ls : Nat → Nat} {B : Nat → List Int} {X : Nat → Prop}
theorem CI.left (h : CI w n cb ls B X) {i : Nat} (hi : i < n) : w.cell? ⟨cb i, 0, none⟩ = some (.int .i64 (ls i : Int)) := by
  obtain ⟨a, c, R, h1, _⟩ := h.ch i hi
  simp [World.cell?, h1]
theorem ended_none (w : World) : Calls Try.prog 42 #[.pointer none] w fun e w' => e = .returned (.bool true) ∧ w' = w := by
  go_enter Try.func42, Try.ntmps42
  go_wp2
  go_ret
  exact ⟨rfl, rfl⟩
theorem ended_some (w : World) (b : Nat) (l : Nat) (h : w.cell? ⟨b, 0, none⟩ = some (.int .i64 (l : Int))) : Calls Try.prog 42 #[ptZ b] w fun e w' => e = .returned (.bool (decide (l = 0))) ∧ w' = w := by
  have HD : Hid (decide (l = 0) = ((l : Int) == 0)) := by show _ = _; rw [Bool.eq_iff_iff]; simp
  go_enter Try.func42, Try.ntmps42
  go_wp2
  go_ret
  exact ⟨by rw [HD.out]; rfl, rfl⟩
theorem ended_any (h : CI w n cb ls B X) (z : Int) (hz : z < (n : Int)) : Calls Try.prog 42 #[pvZ cb z] w fun e w' => e = .returned (.bool (edZ ls z)) ∧ w' = w := by
  by_cases h0 : z < 0
  · rw [show pvZ cb z = .pointer none by simp [pvZ, h0], show edZ ls z = true by simp [edZ, h0]]
    exact ended_none w
  · rw [show pvZ cb z = ptZ (cb z.toNat) by simp [pvZ, h0], show edZ ls z = decide (ls z.toNat = 0) by simp [edZ, h0]]
    exact ended_some w _ _ (h.left (by omega))
theorem left_any (h : CI w n cb ls B X) (i : Nat) (hi : i < n) : Calls Try.prog 23 #[ptZ (cb i)] w fun e w' => e = .returned (.int .i64 (ls i : Int)) ∧ w' = w := by
  have h0 := h.left hi
  generalize ls i = l at *
  generalize cb i = b at *
  clear h
  go_enter Try.func23, Try.ntmps23
  go_wp2
  go_ret
  exact ⟨rfl, rfl⟩
set_option maxHeartbeats 1000000 in
theorem ready_any (h : CI w n cb ls B X) (i : Nat) (hi : i < n) : Calls Try.prog 34 #[ptZ (cb i)] w fun e w' => e = .returned (.bool (rdZ ls B i)) ∧ w' = w := by
  obtain ⟨a, c, R, h1, h2, _, h4, h5, h6⟩ := h.ch i hi
  have HE := fun (z : Int) (hz : z < (n : Int)) => hidW (ended_any h z hz)
  have HE0 := hidW (ended_some w (cb i) (ls i) (h.left hi))
  have c1 : w.cell? ⟨cb i, 1, none⟩ = some (.slice a R.length c) := by simp [World.cell?, h1]
  have HB : Hid (∀ z ∈ R, z < (n : Int)) := fun z hz => by have := h.bi i hi z (h4 z hz); omega
  by_cases h0 : ls i = 0
  · have HR : Hid (rdZ ls B i = false) := by show _ = _; simp [rdZ, h0]
    have hd : decide (ls i = 0) = true := decide_eq_true h0
    rw [hd] at HE0
    clear h h1 h2 h4 h5 h6 HE HB hd h0
    generalize ls i = l at *
    go_enter Try.func34, Try.ntmps34
    go_wp2_with fail
    refine HE0.out.mono ?_
    rintro e w1 ⟨rfl, rfl⟩
    go_wp2
    go_ret
    exact ⟨by rw [HR.out]; rfl, rfl⟩
  · have HR := hidW (rdR_eq h4 h5 h0)
    have hd : decide (ls i = 0) = false := decide_eq_false h0
    rw [hd] at HE0
    have HW := hidW h2
    obtain ⟨m, hm⟩ : ∃ m, m = R.length := ⟨_, rfl⟩
    rw [← hm] at c1 h6
    have HM := hidW hm
    clear h h1 h2 h4 h5 hd h0 hm
    go_enter Try.func34, Try.ntmps34
    go_wp2_with fail
    refine HE0.out.mono ?_
    rintro e w1 ⟨rfl, hw1⟩
    have hw1' := hw1.symm
    subst hw1'
    clear hw1 HE0
    go_wp2_with fail
    go_loopw [12] (fun x wr => ∃ k : Nat, k ≤ m ∧ x = .int .i64 (k : Int) ∧ Hid ((R.take k).all (edZ ls) = true) ∧ wr = w) (fun x _ => m - (intOf x).toNat)
    case atStart => exact ⟨0, Nat.zero_le _, rfl, rfl, rfl⟩
    case round =>
      obtain ⟨k, hk, rfl, HA, hwr⟩ := hrel
      subst hwr
      by_cases hlt : k < m
      · have hkl : k < R.length := by have := HM.out; omega
        obtain ⟨g, off, rfl, e1⟩ := HW.out.getZ k hkl
        have HS : Hid ((R.take (k + 1)).all (edZ ls) = ((R.take k).all (edZ ls) && edZ ls R[k])) := by
          show _ = _
          rw [List.take_add_one, List.getElem?_eq_getElem hkl]
          simp only [Option.toList_some, List.all_append, List.all_cons, List.all_nil, Bool.and_true]
        have HN : Hid (edZ ls R[k] = false → R.all (edZ ls) = false) := fun hf => by
          rw [List.all_eq_false]
          exact ⟨R[k], List.getElem_mem hkl, by simp [hf]⟩
        have HE1 := HE R[k] (HB.out _ (List.getElem_mem hkl))
        generalize R[k] = z at *
        generalize edZ ls z = ez at *
        obtain ⟨pz, hpz⟩ : ∃ pz, pz = pvZ cb z := ⟨_, rfl⟩
        rw [← hpz] at e1 HE1
        clear hpz
        go_wp2_with fail
        refine HE1.out.mono ?_
        rintro e w2 ⟨rfl, hw2⟩
        have hw2' := hw2.symm
        subst hw2'
        clear hw2
        cases ez with
        | true =>
          have HA2 : Hid ((R.take (k + 1)).all (edZ ls) = true) := by show _ = _; rw [HS.out, HA.out]; rfl
          go_wp2
          go_roundw
          case rel => exact ⟨k + 1, by omega, by go_num, HA2, trivial⟩
          case measure => simp [intOf]; omega
        | false =>
          have HF := hidW (HN.out rfl)
          go_wp2
          go_ret
          exact ⟨by rw [HR.out, HF.out]; rfl, rfl⟩
      · obtain rfl : k = m := by omega
        have HT : Hid (R.all (edZ ls) = true) := by
          have := HA.out
          rw [HM.out, List.take_length] at this
          exact this
        go_wp2
        go_ret
        exact ⟨by rw [HR.out, HT.out]; rfl, rfl⟩
theorem step_any (h : CI w n cb ls B X) (i : Nat) (hi : i < n) : Calls Try.prog 36 #[ptZ (cb i)] w fun e w' => e = .returned (.tuple #[]) ∧ CI w' n cb (if rdZ ls B i then decZ ls i else ls) B X ∧ FrZ (fun k => k = cb i) w w' := by
  have HR := hidW (ready_any h i hi)
  have hl := h.left hi
  obtain ⟨a, c, R, h1, _⟩ := h.ch i hi
  have c1 : w.cell? ⟨cb i, 1, none⟩ = some (.slice a R.length c) := by simp [World.cell?, h1]
  have f0 : w.frozen? ⟨cb i, 0, none⟩ = false := frozen_of_row w _ _ _ _ h1
  have f1 : w.frozen? ⟨cb i, 1, none⟩ = false := frozen_of_row w _ _ _ _ h1
  have hle := h.le i hi
  cases hr : rdZ ls B i with
  | false =>
    rw [hr] at HR
    have HP : Hid (CI w n cb ls B X) := h
    clear h h1 hr
    generalize cb i = b at *
    go_enter Try.func36, Try.ntmps36
    go_wp2_with fail
    refine HR.out.mono ?_
    rintro e w1 ⟨rfl, hw1⟩
    have hw1' := hw1.symm
    subst hw1'
    clear hw1
    go_wp2
    exact bodyPost_ret (v := .tuple #[]) (by simp [results, Try.results36, go_sem]) rfl ⟨rfl, HP.out, FrZ.refl _ _⟩
  | true =>
    rw [hr] at HR
    have HP := hidW (h.step hi hr ((ls i : Int) - 1) rfl)
    have hr0 : 1 ≤ ls i := by have := (rdZ_pos hr).1; omega
    clear h h1 hr
    generalize decZ ls i = ls' at *
    generalize cb i = b at *
    generalize ls i = l at *
    go_enter Try.func36, Try.ntmps36
    go_wp2_with fail
    refine HR.out.mono ?_
    rintro e w1 ⟨rfl, hw1⟩
    have hw1' := hw1.symm
    subst hw1'
    clear hw1
    go_wp2
    go_end0
    exact ⟨rfl, HP.out.1, HP.out.2⟩
end
end Go.Proofs.Yteobmijfbjgccaa
