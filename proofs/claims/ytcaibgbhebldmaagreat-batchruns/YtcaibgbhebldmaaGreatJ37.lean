import Derived.Test.YtcaibgbhebldmaaGreatJ36
import Derived.Test.YtcaibgbhebldmaaGreatJ33
import Derived.Deep.RegionHeld
import Derived.Deep.DeepCutAuto
/-
  A STEP KEEPS A MACHINE GOOD, AND IT GOES ON.
-/
namespace Go.Proofs.YtcaibgbhebldmaaGreat
open Go.RowKit Go.Sort

/-- what an instruction leaves as it was -/
structure Com (m m' : M) : Prop where
  steps : m'.steps = m.steps
  ended : m'.ended = m.ended
  fault : m'.fault = m.fault
  lo : m'.lo.length = m.lo.length
  pu : m'.pu.length = m.pu.length
def DoG (m : M) (n : Int) (r : M × Int) : Prop :=
  Com m r.1 ∧ ((r.2 = 0 ∧ (r.1.st.length : Int) = n ∧ r.1.user = m.user ∧ r.1.ou.length ≤ 16) ∨ (200 ≤ r.2 ∧ r.2 ≤ 204 ∧ (r.1.user = m.user ∨ r.2 = 200)))
theorem getG {R : List C} {i : Int} {m m0 : M} {n : Int} (hc : Com m0 m) (hu : m.user = m0.user) (ho : m.ou.length ≤ 16) (hn : (m.st.length : Int) + 1 = n) : DoG m0 n (getN R i m) := by
  unfold getN
  refine ite_P (P := DoG m0 n) (fun _ => ⟨⟨hc.steps, hc.ended, hc.fault, hc.lo, hc.pu⟩, .inl ⟨rfl, ?_, hu, ho⟩⟩) (fun _ => ⟨hc, .inr ⟨(by decide : (200 : Int) ≤ 203), (by decide : (203 : Int) ≤ 204), .inl hu⟩⟩)
  simp only [M.push, List.length_cons]; omega
theorem putG {i : Int} {k : K} {m m0 : M} {n : Int} (hc : Com m0 m) (hu : m.user = m0.user) (ho : m.ou.length ≤ 16) (hn : (m.st.length : Int) = n) : DoG m0 n (putN i k m) := by
  unfold putN
  refine ite_P (P := DoG m0 n) (fun _ => ⟨⟨hc.steps, hc.ended, hc.fault, hc.lo, by simp only [List.length_set]; exact hc.pu⟩, .inl ⟨rfl, hn, hu, ho⟩⟩) (fun _ => ⟨hc, .inr ⟨(by decide : (200 : Int) ≤ 203), (by decide : (203 : Int) ≤ 204), .inl hu⟩⟩)
theorem tellG {x : Int} {m m0 : M} {n : Int} (hc : Com m0 m) (hu : m.user = m0.user) (ho : m.ou.length ≤ 16) (hn : (m.st.length : Int) = n) : DoG m0 n (tellN x m) := by
  unfold tellN
  refine ite_P (P := DoG m0 n) (fun _ => ⟨hc, .inr ⟨(by decide : (200 : Int) ≤ 204), (by decide : (204 : Int) ≤ 204), .inl hu⟩⟩) (fun h => ⟨⟨hc.steps, hc.ended, hc.fault, hc.lo, hc.pu⟩, .inl ⟨rfl, hn, hu, ?_⟩⟩)
  simp only [List.length_append, List.length_singleton]; omega
theorem pairN_f (op x y : Int) : (pairN op x y).2 = 0 ∨ (200 ≤ (pairN op x y).2 ∧ (pairN op x y).2 ≤ 204) := by
  unfold pairN
  repeat' (refine ite_P (P := fun r : Int × Int => r.2 = 0 ∨ (200 ≤ r.2 ∧ r.2 ≤ 204)) (fun _ => ?_) (fun _ => ?_))
  all_goals first | (left; rfl) | (right; decide)
theorem pairG {op : Int} {m : M} {n : Int} (ho : m.ou.length ≤ 16) (h2 : 2 ≤ m.st.length) (hn : (m.st.length : Int) - 1 = n) : DoG m n (pairM op m) := by
  unfold pairM
  refine ite_P (P := DoG m n) (fun _ => ⟨⟨rfl, rfl, rfl, rfl, rfl⟩, .inl ⟨rfl, ?_, rfl, ho⟩⟩) (fun h => ⟨⟨rfl, rfl, rfl, rfl, rfl⟩, .inr ?_⟩)
  · simp only [M.push, M.pop, List.length_cons, List.length_tail]; omega
  · rcases pairN_f op m.pop.top m.top with h1 | h1
    · exact absurd h1 h
    · exact ⟨h1.1, h1.2, .inl rfl⟩
theorem do_good {A : List Int} {R : List C} {op a : Int} {m : M} (h : isOpB op = true) (h0 : op ≠ 0) (h30 : op ≠ 30) (h31 : op ≠ 31) (ht : takesN op ≤ (m.st.length : Int)) (ho : m.ou.length ≤ 16) : DoG m ((m.st.length : Int) - takesN op + leavesN op) (doN A R op a m) := by
  have cm : Com m m := ⟨rfl, rfl, rfl, rfl, rfl⟩
  have cp : Com m m.pop := ⟨rfl, rfl, rfl, rfl, rfl⟩
  have e1 := len_pop m
  have e2 := len_pop m.pop
  unfold doN
  refine ite_P (P := DoG m _) (fun h => ?_) (fun n1 => ?_)
  · subst h; exact ⟨⟨rfl, rfl, rfl, rfl, rfl⟩, .inl ⟨rfl, by simp [M.push, takesN, leavesN, tkL, lvL], rfl, ho⟩⟩
  refine ite_P (P := DoG m _) (fun h => ?_) (fun n2 => ?_)
  · subst h; simp [takesN, leavesN, tkL, lvL] at ht ⊢; exact ⟨cp, .inl ⟨rfl, by show (m.pop.st.length : Int) = _; omega, rfl, ho⟩⟩
  refine ite_P (P := DoG m _) (fun h => ?_) (fun n3 => ?_)
  · subst h; simp [takesN, leavesN, tkL, lvL] at ht ⊢; exact ⟨⟨rfl, rfl, rfl, rfl, rfl⟩, .inl ⟨rfl, by simp only [M.push, List.length_cons]; omega, rfl, ho⟩⟩
  refine ite_P (P := DoG m _) (fun h => ?_) (fun n4 => ?_)
  · subst h; exact ⟨⟨rfl, rfl, rfl, rfl, rfl⟩, .inl ⟨rfl, by simp [M.push, takesN, leavesN, tkL, lvL], rfl, ho⟩⟩
  refine ite_P (P := DoG m _) (fun h => ?_) (fun n5 => ?_)
  · subst h; simp [takesN, leavesN, tkL, lvL] at ht ⊢; exact ⟨⟨rfl, rfl, rfl, by simp only [List.length_set], rfl⟩, .inl ⟨rfl, by show (m.pop.st.length : Int) = _; omega, rfl, ho⟩⟩
  refine ite_P (P := DoG m _) (fun h => ?_) (fun n6 => ?_)
  · subst h; exact ⟨⟨rfl, rfl, rfl, rfl, rfl⟩, .inl ⟨rfl, by simp [M.push, takesN, leavesN, tkL, lvL], rfl, ho⟩⟩
  refine ite_P (P := DoG m _) (fun h => ?_) (fun n7 => ?_)
  · subst h; exact getG cm rfl ho (by simp [takesN, leavesN, tkL, lvL])
  refine ite_P (P := DoG m _) (fun h => ?_) (fun n8 => ?_)
  · subst h; exact ⟨⟨rfl, rfl, rfl, rfl, rfl⟩, .inl ⟨rfl, by simp [M.push, takesN, leavesN, tkL, lvL], rfl, ho⟩⟩
  refine ite_P (P := DoG m _) (fun h => ?_) (fun n9 => ?_)
  · subst h; simp [takesN, leavesN, tkL, lvL] at ht ⊢; exact getG cp rfl ho (by omega)
  refine ite_P (P := DoG m _) (fun h => ?_) (fun n20 => ?_)
  · subst h; simp [takesN, leavesN, tkL, lvL] at ht ⊢; exact ⟨⟨rfl, rfl, rfl, rfl, rfl⟩, .inl ⟨rfl, by simp only [M.push, List.length_cons]; omega, rfl, ho⟩⟩
  refine ite_P (P := DoG m _) (fun h => ?_) (fun n21 => ?_)
  · subst h; simp [takesN, leavesN, tkL, lvL] at ht ⊢; exact ⟨⟨rfl, rfl, rfl, rfl, rfl⟩, .inl ⟨rfl, by simp only [M.push, List.length_cons]; omega, rfl, ho⟩⟩
  refine ite_P (P := DoG m _) (fun h => ?_) (fun n32 => ?_)
  · subst h; simp [takesN, leavesN, tkL, lvL] at ht ⊢; exact putG cp rfl ho (by omega)
  refine ite_P (P := DoG m _) (fun h => ?_) (fun n33 => ?_)
  · subst h; exact putG cm rfl ho (by simp [takesN, leavesN, tkL, lvL])
  refine ite_P (P := DoG m _) (fun h => ?_) (fun n34 => ?_)
  · subst h; simp [takesN, leavesN, tkL, lvL] at ht ⊢; exact putG ⟨rfl, rfl, rfl, rfl, rfl⟩ rfl ho (by omega)
  refine ite_P (P := DoG m _) (fun h => ?_) (fun n35 => ?_)
  · subst h; simp [takesN, leavesN, tkL, lvL] at ht ⊢; exact tellG cp rfl ho (by omega)
  refine ite_P (P := DoG m _) (fun h => ?_) (fun n36 => ?_)
  · subst h; exact ⟨⟨rfl, rfl, rfl, rfl, rfl⟩, .inr ⟨(by decide : (200 : Int) ≤ 200), (by decide : (200 : Int) ≤ 204), .inr rfl⟩⟩
  have hb : takesN op = 2 ∧ leavesN op = 1 := by
    simp only [isOpB, Bool.and_eq_true, decide_eq_true_eq] at h
    have : op = 10 ∨ op = 11 ∨ op = 12 ∨ op = 13 ∨ op = 14 ∨ op = 15 ∨ op = 16 ∨ op = 17 ∨ op = 18 ∨ op = 19 ∨ op = 22 ∨ op = 23 ∨ op = 24 ∨ op = 25 ∨ op = 26 ∨ op = 27 ∨ op = 28 ∨ op = 29 := by omega
    rcases this with rfl | rfl | rfl | rfl | rfl | rfl | rfl | rfl | rfl | rfl | rfl | rfl | rfl | rfl | rfl | rfl | rfl | rfl <;> decide
  exact pairG ho (by omega) (by omega)

theorem next_one {i : Nat} {op a : Int} (h0 : op ≠ 0) (h36 : op ≠ 36) (h30 : op ≠ 30) (h31 : op ≠ 31) : nextN i op a = [i + 1] := by
  unfold nextN; rw [if_neg (by omega), if_neg h31, if_neg h30]
theorem step_done {L : List K} {A : List Int} {R : List C} {m : M} (h : doneB L.length m = true) : stepN L A R m = m := by unfold stepN; rw [if_pos h]
/-- A STEP -/
theorem step_good {p : Nums} {L : List K} {d : List Int} {A : List Int} {R : List C} {m : M} (hs : Sound p L d) (hg : Good p L d m) (hd : doneB L.length m = false) :
    Good p L d (stepN L A R m) ∧ (stepN L A R m).steps = m.steps + 1 ∧ ((stepN L A R m).ended = true ∨ m.at_ < (stepN L A R m).at_) := by
  have hd' := hd
  simp only [doneB, Bool.or_eq_false_iff, decide_eq_false_iff_not] at hd'
  obtain ⟨hen, hne⟩ := hd'
  have hat : m.at_ < L.length := by have := hg.pl; omega
  obtain ⟨g1, g2, g3, g4⟩ := hg.live hen
  obtain ⟨w1, w2, w3⟩ := hs.way m.at_ hat (by omega)
  obtain ⟨q1, q2⟩ := long_way hs.sane m.at_ hat
  obtain ⟨hop, hj, _⟩ := hs.fits hat
  have hnl := next_lt hs.sane hat
  have hlo := hg.lo
  have hpu := hg.pu
  have hou := hg.ou
  have hst := hg.st
  unfold stepN
  rw [if_neg (by rw [hd]; simp)]
  generalize cd L m.at_ = k at *
  obtain ⟨op, a⟩ := k
  simp only at *
  refine ite_P (P := fun r : M => Good p L d r ∧ r.steps = m.steps + 1 ∧ (r.ended = true ∨ m.at_ < r.at_)) (fun h => ?_) (fun h0 => ?_)
  · exact ⟨⟨hg.pl, (fun e => by cases e), fun _ => ⟨by show ((m.steps + 1 : Nat) : Int) ≤ _; omega, .inl ⟨g2, g3⟩⟩, hlo, hpu, hou, hst⟩, rfl, .inl rfl⟩
  refine ite_P (P := fun r : M => Good p L d r ∧ r.steps = m.steps + 1 ∧ (r.ended = true ∨ m.at_ < r.at_)) (fun h => ?_) (fun h30 => ?_)
  · subst h
    have hn : nextN m.at_ 30 a = [a.toNat] := by simp [nextN]
    have hm := hn ▸ List.mem_singleton.2 rfl
    obtain ⟨l1, l2⟩ := hnl a.toNat hm
    have l3 := w3 a.toNat hm
    have l4 := q2 a.toNat hm
    rw [show takesN 30 = 0 from rfl, show leavesN 30 = 0 from rfl] at l3
    exact ⟨⟨l2, fun _ => ⟨by show (m.st.length : Int) = d.getD a.toNat 0; omega, g2, g3, by show ((m.steps + 1 : Nat) : Int) + (mostN L L.length).getD a.toNat 0 ≤ _; omega⟩, (fun e => by rw [show ({ tick m with at_ := a.toNat } : M).ended = m.ended from rfl, hen] at e; cases e), hlo, hpu, hou, hst⟩, rfl, .inr l1⟩
  refine ite_P (P := fun r : M => Good p L d r ∧ r.steps = m.steps + 1 ∧ (r.ended = true ∨ m.at_ < r.at_)) (fun h => ?_) (fun h31 => ?_)
  · subst h
    have hn : nextN m.at_ 31 a = [m.at_ + 1, a.toNat] := by simp [nextN]
    obtain ⟨u, hu⟩ : ∃ u, u = if m.top = 0 then a.toNat else m.at_ + 1 := ⟨_, rfl⟩
    have hm : u ∈ nextN m.at_ 31 a := by rw [hn, hu]; split <;> simp
    rw [← hu]
    obtain ⟨l1, l2⟩ := hnl u hm
    have l3 := w3 u hm
    have l4 := q2 u hm
    rw [show takesN 31 = 1 from rfl, show leavesN 31 = 0 from rfl] at l3
    rw [show takesN 31 = 1 from rfl] at w1
    exact ⟨⟨l2, fun _ => ⟨by show (m.st.tail.length : Int) = d.getD u 0; rw [List.length_tail]; omega, g2, g3, by show ((m.steps + 1 : Nat) : Int) + (mostN L L.length).getD u 0 ≤ _; omega⟩, (fun e => by rw [show ({ (tick m).pop with at_ := u } : M).ended = m.ended from rfl, hen] at e; cases e), hlo, hpu, hou, by show m.st.tail.length ≤ 32; rw [List.length_tail]; omega⟩, rfl, .inr l1⟩
  have hdo := do_good (A := A) (R := R) (a := a) (m := tick m) hop h0 h30 h31 (show takesN op ≤ (m.st.length : Int) by omega) hou
  have hda := do_at A R op a (tick m)
  have hd36 : op = 36 → (doN A R op a (tick m)).2 ≠ 0 := by
    intro h; subst h; exact (by decide : (200 : Int) ≠ 0)
  generalize doN A R op a (tick m) = r at *
  obtain ⟨m4, f⟩ := r
  obtain ⟨hc, hdo⟩ := hdo
  simp only at hda hd36 hdo ⊢
  refine ite_P (P := fun r : M => Good p L d r ∧ r.steps = m.steps + 1 ∧ (r.ended = true ∨ m.at_ < r.at_)) (fun hf => ?_) (fun hf => ?_)
  · rcases hdo with ⟨_, x2, x3, x4⟩ | ⟨x1, x2, x3⟩
    · have h36 : op ≠ 36 := fun e => hd36 e hf
      have hn : nextN m.at_ op a = [m.at_ + 1] := next_one h0 h36 h30 h31
      have hm := hn ▸ List.mem_singleton.2 rfl
      obtain ⟨l1, l2⟩ := hnl (m.at_ + 1) hm
      have l3 := w3 (m.at_ + 1) hm
      have l4 := q2 (m.at_ + 1) hm
      have x2' : (m4.st.length : Int) = (m.st.length : Int) - takesN op + leavesN op := x2
      have hen4 : m4.ended = false := hc.ended.trans hen
      have hsp4 : m4.steps = m.steps + 1 := hc.steps
      exact ⟨⟨l2, fun _ => ⟨by show (m4.st.length : Int) = d.getD (m.at_ + 1) 0; omega, hc.fault.trans g2, x3.trans g3, by show (m4.steps : Int) + (mostN L L.length).getD (m.at_ + 1) 0 ≤ _; omega⟩, (fun e => by rw [show ({ m4 with at_ := m.at_ + 1 } : M).ended = m4.ended from rfl, hen4] at e; cases e), hc.lo.trans hlo, hc.pu.trans hpu, x4, by show m4.st.length ≤ 32; omega⟩, hsp4, .inr l1⟩
    · omega
  · rcases hdo with ⟨x1, _⟩ | ⟨x1, x2, x3⟩
    · exact absurd x1 hf
    · have hsp4 : m4.steps = m.steps + 1 := hc.steps
      refine ⟨⟨by show m4.at_ ≤ L.length; rw [hda]; exact hg.pl, (fun e => by cases e), fun _ => ⟨by show (m4.steps : Int) ≤ _; omega, .inr ⟨x1, x2, rfl, rfl, ?_, ?_⟩⟩, ?_, ?_, by show (0 : Nat) ≤ 16; omega, by show (0 : Nat) ≤ 32; omega⟩, hsp4, .inl rfl⟩
      · show List.replicate m4.pu.length _ = _
        rw [hc.pu, show (tick m).pu = m.pu from rfl, hpu]
      · rcases x3 with x3 | x3
        · exact .inl (x3.trans g3)
        · exact .inr x3
      · show (List.replicate m4.lo.length _).length = _
        rw [List.length_replicate, hc.lo]; exact hlo
      · show (List.replicate m4.pu.length _).length = _
        rw [List.length_replicate, hc.pu]; exact hpu
theorem step_keeps {p : Nums} {L : List K} {d : List Int} {A : List Int} {R : List C} {m : M} (hs : Sound p L d) (hg : Good p L d m) : Good p L d (stepN L A R m) := by
  cases h : doneB L.length m with
  | true => rw [step_done h]; exact hg
  | false => exact (step_good hs hg h).1
theorem run_keeps {p : Nums} {L : List K} {d : List Int} {A : List Int} {R : List C} {m : M} (hs : Sound p L d) (hg : Good p L d m) : ∀ k, Good p L d (runN L A R m k)
  | 0 => hg
  | k + 1 => step_keeps hs (run_keeps hs hg k)
/-- how far it is -/
def leftM (n : Nat) (m : M) : Nat := if m.ended then 0 else n - m.at_
theorem left_zero {L : List K} {m : M} (hp : m.at_ ≤ L.length) (h : leftM L.length m = 0) : doneB L.length m = true := by
  unfold leftM at h
  unfold doneB
  cases he : m.ended with
  | true => rfl
  | false => rw [he] at h; simp at h; simp; omega
theorem step_left {p : Nums} {L : List K} {d : List Int} {A : List Int} {R : List C} {m : M} (hs : Sound p L d) (hg : Good p L d m) (h : doneB L.length m = false) : leftM L.length (stepN L A R m) < leftM L.length m := by
  obtain ⟨h1, _, h3⟩ := step_good (A := A) (R := R) hs hg h
  simp only [doneB, Bool.or_eq_false_iff, decide_eq_false_iff_not] at h
  have := hg.pl
  have := h1.pl
  unfold leftM
  rw [h.1]
  rcases h3 with h3 | h3
  · rw [h3]; simp; omega
  · split <;> simp <;> omega
/-- THE LAST STATE -/
def lastM (L : List K) (A : List Int) (R : List C) (m : M) : M := runN L A R m L.length
theorem run_left {p : Nums} {L : List K} {d : List Int} {A : List Int} {R : List C} {m : M} (hs : Sound p L d) (hg : Good p L d m) : ∀ k, doneB L.length (runN L A R m k) = true ∨ leftM L.length (runN L A R m k) + k ≤ leftM L.length m
  | 0 => .inr (Nat.le_refl _)
  | k + 1 => by
    rcases run_left hs hg k with h | h
    · left
      show doneB _ (stepN _ _ _ _) = true
      rw [step_done h]; exact h
    · cases hd : doneB L.length (runN L A R m k) with
      | true => left; show doneB _ (stepN _ _ _ _) = true; rw [step_done hd]; exact hd
      | false =>
        right
        have := step_left (A := A) (R := R) hs (run_keeps hs hg k) hd
        show leftM _ (stepN _ _ _ _) + _ ≤ _
        omega
theorem left_le (n : Nat) (m : M) : leftM n m ≤ n := by unfold leftM; split <;> omega
theorem last_done {p : Nums} {L : List K} {d : List Int} {A : List Int} {R : List C} {m : M} (hs : Sound p L d) (hg : Good p L d m) : doneB L.length (lastM L A R m) = true := by
  rcases run_left (A := A) (R := R) hs hg L.length with h | h
  · exact h
  · have := left_le L.length m
    exact left_zero (run_keeps hs hg _).pl (by unfold lastM; omega)
/-- a way that has come to its end stays there -/
theorem run_stuck {L : List K} {A : List Int} {R : List C} {m : M} {k : Nat} (h : doneB L.length (runN L A R m k) = true) : ∀ j, k ≤ j → runN L A R m j = runN L A R m k
  | 0, hj => by obtain rfl : k = 0 := by omega
                rfl
  | j + 1, hj => by
    by_cases e : k = j + 1
    · rw [e]
    · have ih := run_stuck h j (by omega)
      show stepN _ _ _ (runN L A R m j) = _
      rw [ih, step_done h]
theorem last_eq {p : Nums} {L : List K} {d : List Int} {A : List Int} {R : List C} {m : M} (hs : Sound p L d) (hg : Good p L d m) {k : Nat} (h : doneB L.length (runN L A R m k) = true) : runN L A R m k = lastM L A R m := by
  by_cases hk : k ≤ L.length
  · exact (run_stuck h L.length hk).symm
  · exact run_stuck (last_done (A := A) (R := R) hs hg) k (by omega)
end Go.Proofs.YtcaibgbhebldmaaGreat
/-
  ROWS THAT ARE MADE ONE BEHIND THE OTHER, FOR A NEW MACHINE.
-/
namespace Go.Proofs.YtcaibgbhebldmaaGreat
open Go.RowKit Go.Sort

/-- a row: the slice's value, its length, its cells -/
structure Rw where
  v : Value
  n : Nat
  xs : List Value
def nilRw : Rw := ⟨.slice none 0 0, 0, []⟩
def Lab (X : World) (O : Nat → Nat) (e size c : Nat) (r : Rw) : Prop := X.ownsRow 0 e size r.v r.n r.xs ∧ ∀ g, r.v.ownBlock = some g → O g = c
theorem Lab.nil (X : World) (O : Nat → Nat) (e size c : Nat) : Lab X O e size c nilRw := ⟨World.ownsRow_nil _ _ _ _, fun g h => by cases h⟩
theorem Lab.grow {X Y : World} {O O' : Nat → Nat} {e size c : Nat} {r : Rw} (h : Lab X O e size c r) (hb : Go.RowKit.Below X.heap.size X Y) (ho : ∀ k, k < X.heap.size → O' k = O k) : Lab Y O' e size c r :=
  ⟨ownsRow_same h.1 (fun g hg => hb.block g (World.ownsRow.lt h.1 g hg).2), fun g hg => (ho g (World.ownsRow.lt h.1 g hg).2).trans (h.2 g hg)⟩
/-- THE ROWS THAT ARE THERE BEHIND WORLD w1: code, args, reads, locals, writes -/
structure NSO (w1 X : World) (O : Nat → Nat) (c a r l p : Rw) : Prop where
  bel : Go.RowKit.Below w1.heap.size w1 X
  new : ∀ k, X.heap.size ≤ k → O k = 0
  old : ∀ k, k < w1.heap.size → O k = 0
  lc : Lab X O 102 2 6 c
  la : Lab X O 2 1 7 a
  lr : Lab X O 25 2 8 r
  ll : Lab X O 2 1 4 l
  lp : Lab X O 136 2 5 p
def NS (w1 X : World) (c a r l p : Rw) : Prop := ∃ O, NSO w1 X O c a r l p
theorem NS.start (w1 : World) : NS w1 w1.drew nilRw nilRw nilRw nilRw nilRw :=
  ⟨fun _ => 0, ⟨rfl, rfl, rfl, Nat.le_refl _, fun _ _ => rfl⟩, fun _ _ => rfl, fun _ _ => rfl, Lab.nil _ _ _ _ _, Lab.nil _ _ _ _ _, Lab.nil _ _ _ _ _, Lab.nil _ _ _ _ _, Lab.nil _ _ _ _ _⟩
/-- labels behind a growth -/
def upO (O : Nat → Nat) (X Y : World) (c : Nat) : Nat → Nat := fun k => if X.heap.size ≤ k ∧ k < Y.heap.size then c else O k
theorem upO_old {O : Nat → Nat} {X Y : World} {c k : Nat} (h : k < X.heap.size) : upO O X Y c k = O k := if_neg (by omega)
theorem Lab.new {X Y : World} {O : Nat → Nat} {e size c n : Nat} {v : Value} {xs : List Value} (h : Y.ownsRow X.heap.size e size v n xs) : Lab Y (upO O X Y c) e size c ⟨v, n, xs⟩ :=
  ⟨ownsRow_mono h (Nat.zero_le _), fun g hg => if_pos (World.ownsRow.lt h g hg)⟩
section
variable {w1 X Y : World} {O : Nat → Nat} {c a r l p : Rw} {v : Value} {n : Nat} {xs : List Value}
theorem NSO.base (h : NSO w1 X O c a r l p) (hb : Go.RowKit.Below X.heap.size X Y) (q : Nat) : Go.RowKit.Below w1.heap.size w1 Y ∧ (∀ k, Y.heap.size ≤ k → upO O X Y q k = 0) ∧ (∀ k, k < w1.heap.size → upO O X Y q k = 0) :=
  ⟨h.bel.trans (hb.mono h.bel.size), fun k hk => (if_neg (by omega)).trans (h.new k (by have := hb.size; omega)), fun k hk => (upO_old (by have := h.bel.size; omega)).trans (h.old k hk)⟩
theorem NS.addC (h : NS w1 X c a r l p) (hb : Go.RowKit.Below X.heap.size X Y) (ho : Y.ownsRow X.heap.size 102 2 v n xs) : NS w1 Y ⟨v, n, xs⟩ a r l p := by
  obtain ⟨O, h⟩ := h
  obtain ⟨b1, b2, b3⟩ := h.base hb 6
  exact ⟨upO O X Y 6, b1, b2, b3, Lab.new ho, h.la.grow hb (fun _ => upO_old), h.lr.grow hb (fun _ => upO_old), h.ll.grow hb (fun _ => upO_old), h.lp.grow hb (fun _ => upO_old)⟩
theorem NS.addA (h : NS w1 X c a r l p) (hb : Go.RowKit.Below X.heap.size X Y) (ho : Y.ownsRow X.heap.size 2 1 v n xs) : NS w1 Y c ⟨v, n, xs⟩ r l p := by
  obtain ⟨O, h⟩ := h
  obtain ⟨b1, b2, b3⟩ := h.base hb 7
  exact ⟨upO O X Y 7, b1, b2, b3, h.lc.grow hb (fun _ => upO_old), Lab.new ho, h.lr.grow hb (fun _ => upO_old), h.ll.grow hb (fun _ => upO_old), h.lp.grow hb (fun _ => upO_old)⟩
theorem NS.addR (h : NS w1 X c a r l p) (hb : Go.RowKit.Below X.heap.size X Y) (ho : Y.ownsRow X.heap.size 25 2 v n xs) : NS w1 Y c a ⟨v, n, xs⟩ l p := by
  obtain ⟨O, h⟩ := h
  obtain ⟨b1, b2, b3⟩ := h.base hb 8
  exact ⟨upO O X Y 8, b1, b2, b3, h.lc.grow hb (fun _ => upO_old), h.la.grow hb (fun _ => upO_old), Lab.new ho, h.ll.grow hb (fun _ => upO_old), h.lp.grow hb (fun _ => upO_old)⟩
theorem NS.addL (h : NS w1 X c a r l p) (hb : Go.RowKit.Below X.heap.size X Y) (ho : Y.ownsRow X.heap.size 2 1 v n xs) : NS w1 Y c a r ⟨v, n, xs⟩ p := by
  obtain ⟨O, h⟩ := h
  obtain ⟨b1, b2, b3⟩ := h.base hb 4
  exact ⟨upO O X Y 4, b1, b2, b3, h.lc.grow hb (fun _ => upO_old), h.la.grow hb (fun _ => upO_old), h.lr.grow hb (fun _ => upO_old), Lab.new ho, h.lp.grow hb (fun _ => upO_old)⟩
theorem NS.addP (h : NS w1 X c a r l p) (hb : Go.RowKit.Below X.heap.size X Y) (ho : Y.ownsRow X.heap.size 136 2 v n xs) : NS w1 Y c a r l ⟨v, n, xs⟩ := by
  obtain ⟨O, h⟩ := h
  obtain ⟨b1, b2, b3⟩ := h.base hb 5
  exact ⟨upO O X Y 5, b1, b2, b3, h.lc.grow hb (fun _ => upO_old), h.la.grow hb (fun _ => upO_old), h.lr.grow hb (fun _ => upO_old), h.ll.grow hb (fun _ => upO_old), Lab.new ho⟩
theorem NS.bel (h : NS w1 X c a r l p) : Go.RowKit.Below w1.heap.size w1 X := by obtain ⟨O, h⟩ := h; exact h.bel
end
/-- the zero cells of n writes -/
abbrev zP (n : Nat) : Array Value := madeCells #[.int .i64 0, .int .i64 0] (n * 2)
abbrev zL (n : Nat) : Array Value := madeCells #[.int .i64 0] n
theorem zL_list (n : Nat) : (zL n).toList = (List.replicate n (0 : Int)).map iv := by rw [zL, made_cellsI]; simp [cellsI]
theorem zP_list (n : Nat) : (zP n).toList = cks (List.replicate n (0, 0)) := by
  rw [cks_replicate]
  apply List.ext_getElem?
  intro j
  simp only [zP, madeCells]
  by_cases h : j < n * 2
  · have : j % 2 = 0 ∨ j % 2 = 1 := by omega
    simp [h]
    rcases this with h1 | h1 <;> simp [h1]
  · simp [h]
def rwL (g n : Nat) : Rw := ⟨.slice (some ⟨g, 0, none⟩) n n, n, (List.replicate n (0 : Int)).map iv⟩
def rwP (g n : Nat) : Rw := ⟨.slice (some ⟨g, 0, none⟩) n n, n, cks (List.replicate n (0, 0))⟩
theorem NS.mkL {w1 X : World} {c a r l p : Rw} (h : NS w1 X c a r l p) {n : Nat} (hn : n ≤ 16) : NS w1 (X.alloc (.cells (zL n) 2)) c a r (rwL X.heap.size n) p := by
  refine h.addL ((Below.refl _ _).alloc (Nat.le_refl _) _) ⟨by simp, .inr ⟨X.heap.size, n, zL n, rfl, Nat.le_refl _, heap_alloc_new _ _ rfl, Nat.le_refl _, by unfold maxLen; omega, ?_, ?_⟩⟩
  · rw [← Array.length_toList, zL_list]; simp
  · rw [zL_list, List.take_of_length_le (by simp)]
theorem NS.mkP {w1 X : World} {c a r l p : Rw} (h : NS w1 X c a r l p) {n : Nat} (hn : n ≤ 16) : NS w1 (X.alloc (.cells (zP n) 136)) c a r l (rwP X.heap.size n) := by
  refine h.addP ((Below.refl _ _).alloc (Nat.le_refl _) _) ⟨by rw [cks_length]; simp, .inr ⟨X.heap.size, n, zP n, rfl, Nat.le_refl _, heap_alloc_new _ _ rfl, Nat.le_refl _, by unfold maxLen; omega, ?_, ?_⟩⟩
  · rw [← Array.length_toList, zP_list, cks_length]; simp
  · rw [zP_list, List.take_of_length_le (by rw [cks_length]; simp)]
theorem make_64 (c : Nat) (hc : c ≤ 16) (u : World) : (Go.Instr.makeSlice 43 (.int .i64 (c : Int)) (.int .i64 (c : Int))).run Tryz.prog u = .ok (.slice (some ⟨u.heap.size, 0, none⟩) c c) (u.alloc (.cells (zL c) 2)) := by
  obtain ⟨i0, hi, hz0, hz1, hz2⟩ := info_parts info64
  have h := run_make (P := Tryz.prog) u 43 2 i0 (.int .i64 0) Tryz.underlying43 hi hz0 .i64 .i64 (c : Int) (c : Int) (by omega) (Int.le_refl _) (by rw [hz2]; omega) (by omega)
  simpa [hz1, Value.cells] using h
theorem make_puts (c : Nat) (hc : c ≤ 16) (u : World) : (Go.Instr.makeSlice 54 (.int .i64 (c : Int)) (.int .i64 (c : Int))).run Tryz.prog u = .ok (.slice (some ⟨u.heap.size, 0, none⟩) c c) (u.alloc (.cells (zP c) 136)) := by
  obtain ⟨i0, hi, hz0, hz1, hz2⟩ := info_parts info_put
  have h := run_make (P := Tryz.prog) u 54 136 i0 (.agg #[.int .i64 0, .int .i64 0]) Tryz.underlying54 hi hz0 .i64 .i64 (c : Int) (c : Int) (by omega) (Int.le_refl _) (by rw [hz2]; omega) (by omega)
  simpa [hz1, Value.cells] using h
/-- THE NEW MACHINE -/
theorem NS.machine {w1 X : World} {L : List K} {A : List Int} {R : List C} {c a r : Value} {gl gp nl np : Nat} (h : NS w1 X ⟨c, L.length, cks L⟩ ⟨a, A.length, A.map iv⟩ ⟨r, R.length, ccs R⟩ (rwL gl nl) (rwP gp np)) {F : Nat → Prop} (hF : ∀ k, F k → k < w1.heap.size) (p : Nums) (h1 : p.locals = (nl : Int)) (h2 : p.writes = (np : Int)) :
    MSt (X.alloc (.cells #[c, a, r, .int .i64 0, .slice none 0 0, .slice (some ⟨gl, 0, none⟩) nl nl, .slice none 0 0, .slice (some ⟨gp, 0, none⟩) np np, .int .i64 0, .bool false, .int .i64 0, .int .i64 0] 130)) F X.heap.size ⟨c, a, r, .slice (some ⟨gl, 0, none⟩) nl nl, .slice (some ⟨gp, 0, none⟩) np np⟩ L A R (startM p) ∧ w1.heap.size ≤ X.heap.size ∧
    Go.RowKit.Below w1.heap.size w1 (X.alloc (.cells #[c, a, r, .int .i64 0, .slice none 0 0, .slice (some ⟨gl, 0, none⟩) nl nl, .slice none 0 0, .slice (some ⟨gp, 0, none⟩) np np, .int .i64 0, .bool false, .int .i64 0, .int .i64 0] 130)) := by
  obtain ⟨O, h⟩ := h
  have hb : ∀ o, Go.RowKit.Below X.heap.size X (X.alloc o) := fun o => (Below.refl _ _).alloc (Nat.le_refl _) _
  have ho : ∀ k, k < X.heap.size → (if k = X.heap.size then 1 else O k) = O k := fun k hk => if_neg (by omega)
  have e1 : p.locals.toNat = nl := by omega
  have e2 : p.writes.toNat = np := by omega
  refine ⟨⟨fun k => if k = X.heap.size then 1 else O k, ⟨c, a, r, .slice none 0 0, .slice (some ⟨gl, 0, none⟩) nl nl, .slice none 0 0, .slice (some ⟨gp, 0, none⟩) np np⟩, ?_, ?_, rfl⟩, h.bel.size, h.bel.trans ((hb _).mono h.bel.size)⟩
  · have hc := h.lc.grow (hb (.cells #[c, a, r, .int .i64 0, .slice none 0 0, .slice (some ⟨gl, 0, none⟩) nl nl, .slice none 0 0, .slice (some ⟨gp, 0, none⟩) np np, .int .i64 0, .bool false, .int .i64 0, .int .i64 0] 130)) ho
    have ha := h.la.grow (hb (.cells #[c, a, r, .int .i64 0, .slice none 0 0, .slice (some ⟨gl, 0, none⟩) nl nl, .slice none 0 0, .slice (some ⟨gp, 0, none⟩) np np, .int .i64 0, .bool false, .int .i64 0, .int .i64 0] 130)) ho
    have hr := h.lr.grow (hb (.cells #[c, a, r, .int .i64 0, .slice none 0 0, .slice (some ⟨gl, 0, none⟩) nl nl, .slice none 0 0, .slice (some ⟨gp, 0, none⟩) np np, .int .i64 0, .bool false, .int .i64 0, .int .i64 0] 130)) ho
    have hl := h.ll.grow (hb (.cells #[c, a, r, .int .i64 0, .slice none 0 0, .slice (some ⟨gl, 0, none⟩) nl nl, .slice none 0 0, .slice (some ⟨gp, 0, none⟩) np np, .int .i64 0, .bool false, .int .i64 0, .int .i64 0] 130)) ho
    have hp := h.lp.grow (hb (.cells #[c, a, r, .int .i64 0, .slice none 0 0, .slice (some ⟨gl, 0, none⟩) nl nl, .slice none 0 0, .slice (some ⟨gp, 0, none⟩) np np, .int .i64 0, .bool false, .int .i64 0, .int .i64 0] 130)) ho
    refine ⟨heap_alloc_new _ _ rfl, Nat.zero_le _, if_pos rfl, hc.1, ha.1, hr.1, World.ownsRow_nil _ _ _ _, ?_, World.ownsRow_nil _ _ _ _, ?_, hc.2, ha.2, hr.2, (fun g e => by cases e), hl.2, (fun g e => by cases e), hp.2, fun k hk => ?_⟩
    · have := hl.1
      show World.ownsRow _ _ _ _ _ (List.replicate p.locals.toNat (0 : Int)).length ((List.replicate p.locals.toNat (0 : Int)).map iv)
      rw [List.length_replicate, e1]; exact this
    · have := hp.1
      show World.ownsRow _ _ _ _ _ (List.replicate p.writes.toNat ((0 : Int), (0 : Int))).length (cks (List.replicate p.writes.toNat (0, 0)))
      rw [List.length_replicate, e2]; exact this
    · have : X.heap.size + 1 ≤ k := by simpa using hk
      show (if k = X.heap.size then 1 else O k) = 0
      rw [if_neg (by omega)]; exact h.new k (by omega)
  · intro k hk
    have h3 := hF k hk
    have h4 := h.bel.size
    refine ⟨?_, by simp; omega⟩
    show (if k = X.heap.size then 1 else O k) = 0
    rw [if_neg (by omega)]; exact h.old k h3
end Go.Proofs.YtcaibgbhebldmaaGreat
/-
  WHAT New IS GIVEN AND ANSWERS; ITS CLONES.
-/
namespace Go.Proofs.YtcaibgbhebldmaaGreat
open Go.RowKit Go.Sort

/-- A SLICE THAT CAME IN: its cells -/
structure SlIn (w : World) (ao : Option Addr) (n cap : Nat) (xs : List Value) : Prop where
  at_ : CellsAt w ao xs
  nil : ao = none → n = 0 ∧ cap = 0
/-- A CALL's ARGUMENTS -/
structure CallIn (w : World) (p : Nums) (ao : Option Addr) (n cap : Nat) (L : List K) (aa : Option Addr) (na ca : Nat) (A : List Int) (ra : Option Addr) (nr cr : Nat) (R : List C) : Prop where
  nin : NIn p
  keys : KeysAt w ao L
  ln : n = L.length
  cnil : ao = none → cap = 0
  args : SlIn w aa na ca (A.map iv)
  la : na = A.length
  reads : SlIn w ra nr cr (ccs R)
  lr : nr = R.length
theorem CallIn.kept {w w1 : World} {p : Nums} {ao : Option Addr} {n cap : Nat} {L : List K} {aa : Option Addr} {na ca : Nat} {A : List Int} {ra : Option Addr} {nr cr : Nat} {R : List C} (h : CallIn w p ao n cap L aa na ca A ra nr cr R) (hb : Go.RowKit.Below w.heap.size w w1) : CallIn w1 p ao n cap L aa na ca A ra nr cr R :=
  ⟨h.nin, h.keys.kept hb, h.ln, h.cnil, ⟨h.args.at_.below hb, h.args.nil⟩, h.la, ⟨h.reads.at_.below hb, h.reads.nil⟩, h.lr⟩
def fedB (p : Nums) (A : List Int) (R : List C) : Bool := decide ((A.length : Int) = p.args) && decide ((R.length : Int) = p.reads)
/-- New's error -/
def newE (p : Nums) (L : List K) (A : List Int) (R : List C) : Int := if verifyN p L ≠ 0 then verifyN p L else if fedB p A R = false then 50 else 0
def NewPost (w : World) (p : Nums) (L : List K) (A : List Int) (R : List C) (e : Ending) (w' : World) : Prop :=
  (newE p L A R ≠ 0 ∧ e = .returned (.tuple #[.pointer none, .int .i64 (newE p L A R)])) ∨
  (newE p L A R = 0 ∧ ∃ B Z, e = .returned (.tuple #[pm B, .int .i64 0]) ∧ w.heap.size ≤ B ∧ MSt w' (fun k => k < w.heap.size) B Z L A R (startM p))
section
variable {w1 X : World} {L : List K} {A : List Int} {R : List C} {c a r l p : Rw} {ao : Option Addr} {n cap : Nat}
theorem cloneC (h : NS w1 X c a r l p) (hk : KeysAt w1 ao L) (hn : n = L.length) (hc : ao = none → cap = 0) (hm : n ≤ 256) :
    Calls Tryz.prog 58 #[.slice ao n cap] X fun e W => ∃ b m k, e = .returned (.slice b m k) ∧ NS w1 W ⟨.slice b m k, L.length, cks L⟩ a r l p := by
  subst hn
  refine (clone_instr X ao L.length cap (cks L) (cks_length L) (hk.kept h.bel).cells (fun e => ⟨?_, hc e⟩) (cks_one L) (by omega)).mono ?_
  · rcases hk with rfl | ⟨b, off, e1, _⟩
    · rfl
    · rw [e] at e1; cases e1
  · rintro e W ⟨v, rfl, ho, hb⟩
    obtain ⟨b, k, rfl, _⟩ := own_slice ho
    exact ⟨b, _, k, rfl, h.addC hb ho⟩
theorem cloneA (h : NS w1 X c a r l p) (hs : SlIn w1 ao n cap (A.map iv)) (hn : n = A.length) (hm : n ≤ 256) :
    Calls Tryz.prog 59 #[.slice ao n cap] X fun e W => ∃ b m k, e = .returned (.slice b m k) ∧ NS w1 W c ⟨.slice b m k, A.length, A.map iv⟩ r l p := by
  subst hn
  refine (clone_i64 X ao A.length cap (A.map iv) (by simp) (hs.at_.below h.bel) hs.nil (oneI A) (by omega)).mono ?_
  rintro e W ⟨v, rfl, ho, hb⟩
  obtain ⟨b, k, rfl, _⟩ := own_slice ho
  exact ⟨b, _, k, rfl, h.addA hb ho⟩
theorem cloneR (h : NS w1 X c a r l p) (hs : SlIn w1 ao n cap (ccs R)) (hn : n = R.length) (hm : n ≤ 256) :
    Calls Tryz.prog 60 #[.slice ao n cap] X fun e W => ∃ b m k, e = .returned (.slice b m k) ∧ NS w1 W c a ⟨.slice b m k, R.length, ccs R⟩ l p := by
  subst hn
  refine (clone_cell X ao R.length cap (ccs R) (ccs_length R) (hs.at_.below h.bel) hs.nil (ccs_one R) (by omega)).mono ?_
  rintro e W ⟨v, rfl, ho, hb⟩
  obtain ⟨b, k, rfl, _⟩ := own_slice ho
  exact ⟨b, _, k, rfl, h.addR hb ho⟩
end
theorem al {W : World} {a : Addr} {v : Value} {o : Obj} (h : W.cell? a = some v) : (W.alloc o).cell? a = some v := Lib.cell?_alloc_some o h
theorem keepA {W : World} {a1 a2 a3 : Addr} {v1 v2 v3 : Value} {o : Obj} (h : W.cell? a1 = some v1 ∧ W.cell? a2 = some v2 ∧ W.cell? a3 = some v3) : (W.alloc o).cell? a1 = some v1 ∧ (W.alloc o).cell? a2 = some v2 ∧ (W.alloc o).cell? a3 = some v3 := ⟨al h.1, al h.2.1, al h.2.2⟩
theorem keepD {W : World} {a1 a2 a3 : Addr} {v1 v2 v3 : Value} {o : Obj} (h : W.drew.cell? a1 = some v1 ∧ W.drew.cell? a2 = some v2 ∧ W.drew.cell? a3 = some v3) : (W.alloc o).drew.cell? a1 = some v1 ∧ (W.alloc o).drew.cell? a2 = some v2 ∧ (W.alloc o).drew.cell? a3 = some v3 := ⟨al (W := W) h.1, al (W := W) h.2.1, al (W := W) h.2.2⟩
theorem hidNS {w1 X : World} {c a r l p : Rw} (h : NS w1 X c a r l p) : Hid (NS w1 X c a r l p) := h
theorem NS.pcell {w1 X : World} {c a r l p : Rw} (h : NS w1 X c a r l p) {b i : Nat} {v : Value} (hlt : b < w1.heap.size) (hc : w1.cell? ⟨b, i, none⟩ = some v) : X.cell? ⟨b, i, none⟩ = some v := (h.bel.cell (p := ⟨b, i, none⟩) hlt).trans hc
def NewOut (w w1 : World) (p : Nums) (L : List K) (A : List Int) (R : List C) (v6 : Value) (wx : World) : Prop := ∃ B Z, v6 = pm B ∧ w.heap.size ≤ B ∧ MSt wx (fun k => k < w.heap.size) B Z L A R (startM p) ∧ Go.RowKit.Below w1.heap.size w1 wx

theorem newOut {w w1 X : World} {p : Nums} {L : List K} {A : List Int} {R : List C} {c a r : Value} {gl gp gB gl' gp' nl np : Nat} (h : NS w1 X ⟨c, L.length, cks L⟩ ⟨a, A.length, A.map iv⟩ ⟨r, R.length, ccs R⟩ (rwL gl' nl) (rwP gp' np)) (e1 : gl = gl') (e2 : gp = gp') (e3 : gB = X.heap.size) (hw : w.heap.size ≤ w1.heap.size) (hn : p.locals = (nl : Int) ∧ p.writes = (np : Int)) :
    NewOut w w1 p L A R (pm gB) (X.alloc (.cells #[c, a, r, .int .i64 0, .slice none 0 0, .slice (some ⟨gl, 0, none⟩) nl nl, .slice none 0 0, .slice (some ⟨gp, 0, none⟩) np np, .int .i64 0, .bool false, .int .i64 0, .int .i64 0] 130)) := by
  subst e1 e2 e3
  obtain ⟨h1, h2, h3⟩ := h.machine (F := fun k => k < w.heap.size) (fun k hk => Nat.lt_of_lt_of_le hk hw) p hn.1 hn.2
  exact ⟨_, _, rfl, Nat.le_trans hw h2, h1, h3⟩
end Go.Proofs.YtcaibgbhebldmaaGreat
