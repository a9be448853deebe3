/-
  A STEP KEEPS A MACHINE GOOD, AND IT GOES ON.
-/
import Derived.Test.YtbpgafchagpmoaaXStep
namespace Go.Proofs.Ytbpgafchagpmoaa
open Go.RowKit Go.Sort

/-- what an instruction leaves as it was -/
structure Com (m m' : M) : Prop where
  steps : m'.steps = m.steps
  ended : m'.ended = m.ended
  fault : m'.fault = m.fault
  lo : m'.lo.length = m.lo.length
  pu : m'.pu.length = m.pu.length
def DoG (m : M) (n : Int) (r : M × Int) : Prop :=
  Com m r.1 ∧ ((r.2 = 0 ∧ (r.1.st.length : Int) = n ∧ r.1.user = m.user ∧ r.1.ou.length ≤ 16) ∨ (200 ≤ r.2 ∧ r.2 ≤ 204 ∧ (r.1.user = m.user ∨ r.2 = 200)))
theorem getG {R : List C} {i : Int} {m m0 : M} {n : Int} (hc : Com m0 m) (hu : m.user = m0.user) (ho : m.ou.length ≤ 16) (hn : (m.st.length : Int) + 1 = n) : DoG m0 n (getN R i m) := by
  unfold getN
  refine ite_P (P := DoG m0 n) (fun _ => ⟨⟨hc.steps, hc.ended, hc.fault, hc.lo, hc.pu⟩, .inl ⟨rfl, ?_, hu, ho⟩⟩) (fun _ => ⟨hc, .inr ⟨(by decide : (200 : Int) ≤ 203), (by decide : (203 : Int) ≤ 204), .inl hu⟩⟩)
  simp only [M.push, List.length_cons]; omega
theorem putG {i : Int} {k : K} {m m0 : M} {n : Int} (hc : Com m0 m) (hu : m.user = m0.user) (ho : m.ou.length ≤ 16) (hn : (m.st.length : Int) = n) : DoG m0 n (putN i k m) := by
  unfold putN
  refine ite_P (P := DoG m0 n) (fun _ => ⟨⟨hc.steps, hc.ended, hc.fault, hc.lo, by simp only [List.length_set]; exact hc.pu⟩, .inl ⟨rfl, hn, hu, ho⟩⟩) (fun _ => ⟨hc, .inr ⟨(by decide : (200 : Int) ≤ 203), (by decide : (203 : Int) ≤ 204), .inl hu⟩⟩)
theorem tellG {x : Int} {m m0 : M} {n : Int} (hc : Com m0 m) (hu : m.user = m0.user) (ho : m.ou.length ≤ 16) (hn : (m.st.length : Int) = n) : DoG m0 n (tellN x m) := by
  unfold tellN
  refine ite_P (P := DoG m0 n) (fun _ => ⟨hc, .inr ⟨(by decide : (200 : Int) ≤ 204), (by decide : (204 : Int) ≤ 204), .inl hu⟩⟩) (fun h => ⟨⟨hc.steps, hc.ended, hc.fault, hc.lo, hc.pu⟩, .inl ⟨rfl, hn, hu, ?_⟩⟩)
  simp only [List.length_append, List.length_singleton]; omega
theorem pairN_f (op x y : Int) : (pairN op x y).2 = 0 ∨ (200 ≤ (pairN op x y).2 ∧ (pairN op x y).2 ≤ 204) := by
  unfold pairN
  repeat' (refine ite_P (P := fun r : Int × Int => r.2 = 0 ∨ (200 ≤ r.2 ∧ r.2 ≤ 204)) (fun _ => ?_) (fun _ => ?_))
  all_goals first | (left; rfl) | (right; decide)
theorem pairG {op : Int} {m : M} {n : Int} (ho : m.ou.length ≤ 16) (h2 : 2 ≤ m.st.length) (hn : (m.st.length : Int) - 1 = n) : DoG m n (pairM op m) := by
  unfold pairM
  refine ite_P (P := DoG m n) (fun _ => ⟨⟨rfl, rfl, rfl, rfl, rfl⟩, .inl ⟨rfl, ?_, rfl, ho⟩⟩) (fun h => ⟨⟨rfl, rfl, rfl, rfl, rfl⟩, .inr ?_⟩)
  · simp only [M.push, M.pop, List.length_cons, List.length_tail]; omega
  · rcases pairN_f op m.pop.top m.top with h1 | h1
    · exact absurd h1 h
    · exact ⟨h1.1, h1.2, .inl rfl⟩
theorem do_good {A : List Int} {R : List C} {op a : Int} {m : M} (h : isOpB op = true) (h0 : op ≠ 0) (h30 : op ≠ 30) (h31 : op ≠ 31) (ht : takesN op ≤ (m.st.length : Int)) (ho : m.ou.length ≤ 16) : DoG m ((m.st.length : Int) - takesN op + leavesN op) (doN A R op a m) := by
  have cm : Com m m := ⟨rfl, rfl, rfl, rfl, rfl⟩
  have cp : Com m m.pop := ⟨rfl, rfl, rfl, rfl, rfl⟩
  have e1 := len_pop m
  have e2 := len_pop m.pop
  unfold doN
  refine ite_P (P := DoG m _) (fun h => ?_) (fun n1 => ?_)
  · subst h; exact ⟨⟨rfl, rfl, rfl, rfl, rfl⟩, .inl ⟨rfl, by simp [M.push, takesN, leavesN, tkL, lvL], rfl, ho⟩⟩
  refine ite_P (P := DoG m _) (fun h => ?_) (fun n2 => ?_)
  · subst h; simp [takesN, leavesN, tkL, lvL] at ht ⊢; exact ⟨cp, .inl ⟨rfl, by show (m.pop.st.length : Int) = _; omega, rfl, ho⟩⟩
  refine ite_P (P := DoG m _) (fun h => ?_) (fun n3 => ?_)
  · subst h; simp [takesN, leavesN, tkL, lvL] at ht ⊢; exact ⟨⟨rfl, rfl, rfl, rfl, rfl⟩, .inl ⟨rfl, by simp only [M.push, List.length_cons]; omega, rfl, ho⟩⟩
  refine ite_P (P := DoG m _) (fun h => ?_) (fun n4 => ?_)
  · subst h; exact ⟨⟨rfl, rfl, rfl, rfl, rfl⟩, .inl ⟨rfl, by simp [M.push, takesN, leavesN, tkL, lvL], rfl, ho⟩⟩
  refine ite_P (P := DoG m _) (fun h => ?_) (fun n5 => ?_)
  · subst h; simp [takesN, leavesN, tkL, lvL] at ht ⊢; exact ⟨⟨rfl, rfl, rfl, by simp only [List.length_set], rfl⟩, .inl ⟨rfl, by show (m.pop.st.length : Int) = _; omega, rfl, ho⟩⟩
  refine ite_P (P := DoG m _) (fun h => ?_) (fun n6 => ?_)
  · subst h; exact ⟨⟨rfl, rfl, rfl, rfl, rfl⟩, .inl ⟨rfl, by simp [M.push, takesN, leavesN, tkL, lvL], rfl, ho⟩⟩
  refine ite_P (P := DoG m _) (fun h => ?_) (fun n7 => ?_)
  · subst h; exact getG cm rfl ho (by simp [takesN, leavesN, tkL, lvL])
  refine ite_P (P := DoG m _) (fun h => ?_) (fun n8 => ?_)
  · subst h; exact ⟨⟨rfl, rfl, rfl, rfl, rfl⟩, .inl ⟨rfl, by simp [M.push, takesN, leavesN, tkL, lvL], rfl, ho⟩⟩
  refine ite_P (P := DoG m _) (fun h => ?_) (fun n9 => ?_)
  · subst h; simp [takesN, leavesN, tkL, lvL] at ht ⊢; exact getG cp rfl ho (by omega)
  refine ite_P (P := DoG m _) (fun h => ?_) (fun n20 => ?_)
  · subst h; simp [takesN, leavesN, tkL, lvL] at ht ⊢; exact ⟨⟨rfl, rfl, rfl, rfl, rfl⟩, .inl ⟨rfl, by simp only [M.push, List.length_cons]; omega, rfl, ho⟩⟩
  refine ite_P (P := DoG m _) (fun h => ?_) (fun n21 => ?_)
  · subst h; simp [takesN, leavesN, tkL, lvL] at ht ⊢; exact ⟨⟨rfl, rfl, rfl, rfl, rfl⟩, .inl ⟨rfl, by simp only [M.push, List.length_cons]; omega, rfl, ho⟩⟩
  refine ite_P (P := DoG m _) (fun h => ?_) (fun n32 => ?_)
  · subst h; simp [takesN, leavesN, tkL, lvL] at ht ⊢; exact putG cp rfl ho (by omega)
  refine ite_P (P := DoG m _) (fun h => ?_) (fun n33 => ?_)
  · subst h; exact putG cm rfl ho (by simp [takesN, leavesN, tkL, lvL])
  refine ite_P (P := DoG m _) (fun h => ?_) (fun n34 => ?_)
  · subst h; simp [takesN, leavesN, tkL, lvL] at ht ⊢; exact putG ⟨rfl, rfl, rfl, rfl, rfl⟩ rfl ho (by omega)
  refine ite_P (P := DoG m _) (fun h => ?_) (fun n35 => ?_)
  · subst h; simp [takesN, leavesN, tkL, lvL] at ht ⊢; exact tellG cp rfl ho (by omega)
  refine ite_P (P := DoG m _) (fun h => ?_) (fun n36 => ?_)
  · subst h; exact ⟨⟨rfl, rfl, rfl, rfl, rfl⟩, .inr ⟨(by decide : (200 : Int) ≤ 200), (by decide : (200 : Int) ≤ 204), .inr rfl⟩⟩
  have hb : takesN op = 2 ∧ leavesN op = 1 := by
    simp only [isOpB, Bool.and_eq_true, decide_eq_true_eq] at h
    have : op = 10 ∨ op = 11 ∨ op = 12 ∨ op = 13 ∨ op = 14 ∨ op = 15 ∨ op = 16 ∨ op = 17 ∨ op = 18 ∨ op = 19 ∨ op = 22 ∨ op = 23 ∨ op = 24 ∨ op = 25 ∨ op = 26 ∨ op = 27 ∨ op = 28 ∨ op = 29 := by omega
    rcases this with rfl | rfl | rfl | rfl | rfl | rfl | rfl | rfl | rfl | rfl | rfl | rfl | rfl | rfl | rfl | rfl | rfl | rfl <;> decide
  exact pairG ho (by omega) (by omega)

theorem next_one {i : Nat} {op a : Int} (h0 : op ≠ 0) (h36 : op ≠ 36) (h30 : op ≠ 30) (h31 : op ≠ 31) : nextN i op a = [i + 1] := by
  unfold nextN; rw [if_neg (by omega), if_neg h31, if_neg h30]
theorem step_done {L : List K} {A : List Int} {R : List C} {m : M} (h : doneB L.length m = true) : stepN L A R m = m := by unfold stepN; rw [if_pos h]
/-- A STEP -/
theorem step_good {p : Nums} {L : List K} {d : List Int} {A : List Int} {R : List C} {m : M} (hs : Sound p L d) (hg : Good p L d m) (hd : doneB L.length m = false) :
    Good p L d (stepN L A R m) ∧ (stepN L A R m).steps = m.steps + 1 ∧ ((stepN L A R m).ended = true ∨ m.at_ < (stepN L A R m).at_) := by
  have hd' := hd
  simp only [doneB, Bool.or_eq_false_iff, decide_eq_false_iff_not] at hd'
  obtain ⟨hen, hne⟩ := hd'
  have hat : m.at_ < L.length := by have := hg.pl; omega
  obtain ⟨g1, g2, g3, g4⟩ := hg.live hen
  obtain ⟨w1, w2, w3⟩ := hs.way m.at_ hat (by omega)
  obtain ⟨q1, q2⟩ := long_way hs.sane m.at_ hat
  obtain ⟨hop, hj, _⟩ := hs.fits hat
  have hnl := next_lt hs.sane hat
  have hlo := hg.lo
  have hpu := hg.pu
  have hou := hg.ou
  have hst := hg.st
  unfold stepN
  rw [if_neg (by rw [hd]; simp)]
  generalize cd L m.at_ = k at *
  obtain ⟨op, a⟩ := k
  simp only at *
  refine ite_P (P := fun r : M => Good p L d r ∧ r.steps = m.steps + 1 ∧ (r.ended = true ∨ m.at_ < r.at_)) (fun h => ?_) (fun h0 => ?_)
  · exact ⟨⟨hg.pl, (fun e => by cases e), fun _ => ⟨by show ((m.steps + 1 : Nat) : Int) ≤ _; omega, .inl ⟨g2, g3⟩⟩, hlo, hpu, hou, hst⟩, rfl, .inl rfl⟩
  refine ite_P (P := fun r : M => Good p L d r ∧ r.steps = m.steps + 1 ∧ (r.ended = true ∨ m.at_ < r.at_)) (fun h => ?_) (fun h30 => ?_)
  · subst h
    have hn : nextN m.at_ 30 a = [a.toNat] := by simp [nextN]
    have hm := hn ▸ List.mem_singleton.2 rfl
    obtain ⟨l1, l2⟩ := hnl a.toNat hm
    have l3 := w3 a.toNat hm
    have l4 := q2 a.toNat hm
    rw [show takesN 30 = 0 from rfl, show leavesN 30 = 0 from rfl] at l3
    exact ⟨⟨l2, fun _ => ⟨by show (m.st.length : Int) = d.getD a.toNat 0; omega, g2, g3, by show ((m.steps + 1 : Nat) : Int) + (mostN L L.length).getD a.toNat 0 ≤ _; omega⟩, (fun e => by rw [show ({ tick m with at_ := a.toNat } : M).ended = m.ended from rfl, hen] at e; cases e), hlo, hpu, hou, hst⟩, rfl, .inr l1⟩
  refine ite_P (P := fun r : M => Good p L d r ∧ r.steps = m.steps + 1 ∧ (r.ended = true ∨ m.at_ < r.at_)) (fun h => ?_) (fun h31 => ?_)
  · subst h
    have hn : nextN m.at_ 31 a = [m.at_ + 1, a.toNat] := by simp [nextN]
    obtain ⟨u, hu⟩ : ∃ u, u = if m.top = 0 then a.toNat else m.at_ + 1 := ⟨_, rfl⟩
    have hm : u ∈ nextN m.at_ 31 a := by rw [hn, hu]; split <;> simp
    rw [← hu]
    obtain ⟨l1, l2⟩ := hnl u hm
    have l3 := w3 u hm
    have l4 := q2 u hm
    rw [show takesN 31 = 1 from rfl, show leavesN 31 = 0 from rfl] at l3
    rw [show takesN 31 = 1 from rfl] at w1
    exact ⟨⟨l2, fun _ => ⟨by show (m.st.tail.length : Int) = d.getD u 0; rw [List.length_tail]; omega, g2, g3, by show ((m.steps + 1 : Nat) : Int) + (mostN L L.length).getD u 0 ≤ _; omega⟩, (fun e => by rw [show ({ (tick m).pop with at_ := u } : M).ended = m.ended from rfl, hen] at e; cases e), hlo, hpu, hou, by show m.st.tail.length ≤ 32; rw [List.length_tail]; omega⟩, rfl, .inr l1⟩
  have hdo := do_good (A := A) (R := R) (a := a) (m := tick m) hop h0 h30 h31 (show takesN op ≤ (m.st.length : Int) by omega) hou
  have hda := do_at A R op a (tick m)
  have hd36 : op = 36 → (doN A R op a (tick m)).2 ≠ 0 := by
    intro h; subst h; exact (by decide : (200 : Int) ≠ 0)
  generalize doN A R op a (tick m) = r at *
  obtain ⟨m4, f⟩ := r
  obtain ⟨hc, hdo⟩ := hdo
  simp only at hda hd36 hdo ⊢
  refine ite_P (P := fun r : M => Good p L d r ∧ r.steps = m.steps + 1 ∧ (r.ended = true ∨ m.at_ < r.at_)) (fun hf => ?_) (fun hf => ?_)
  · rcases hdo with ⟨_, x2, x3, x4⟩ | ⟨x1, x2, x3⟩
    · have h36 : op ≠ 36 := fun e => hd36 e hf
      have hn : nextN m.at_ op a = [m.at_ + 1] := next_one h0 h36 h30 h31
      have hm := hn ▸ List.mem_singleton.2 rfl
      obtain ⟨l1, l2⟩ := hnl (m.at_ + 1) hm
      have l3 := w3 (m.at_ + 1) hm
      have l4 := q2 (m.at_ + 1) hm
      have x2' : (m4.st.length : Int) = (m.st.length : Int) - takesN op + leavesN op := x2
      have hen4 : m4.ended = false := hc.ended.trans hen
      have hsp4 : m4.steps = m.steps + 1 := hc.steps
      exact ⟨⟨l2, fun _ => ⟨by show (m4.st.length : Int) = d.getD (m.at_ + 1) 0; omega, hc.fault.trans g2, x3.trans g3, by show (m4.steps : Int) + (mostN L L.length).getD (m.at_ + 1) 0 ≤ _; omega⟩, (fun e => by rw [show ({ m4 with at_ := m.at_ + 1 } : M).ended = m4.ended from rfl, hen4] at e; cases e), hc.lo.trans hlo, hc.pu.trans hpu, x4, by show m4.st.length ≤ 32; omega⟩, hsp4, .inr l1⟩
    · omega
  · rcases hdo with ⟨x1, _⟩ | ⟨x1, x2, x3⟩
    · exact absurd x1 hf
    · have hsp4 : m4.steps = m.steps + 1 := hc.steps
      refine ⟨⟨by show m4.at_ ≤ L.length; rw [hda]; exact hg.pl, (fun e => by cases e), fun _ => ⟨by show (m4.steps : Int) ≤ _; omega, .inr ⟨x1, x2, rfl, rfl, ?_, ?_⟩⟩, ?_, ?_, by show (0 : Nat) ≤ 16; omega, by show (0 : Nat) ≤ 32; omega⟩, hsp4, .inl rfl⟩
      · show List.replicate m4.pu.length _ = _
        rw [hc.pu, show (tick m).pu = m.pu from rfl, hpu]
      · rcases x3 with x3 | x3
        · exact .inl (x3.trans g3)
        · exact .inr x3
      · show (List.replicate m4.lo.length _).length = _
        rw [List.length_replicate, hc.lo]; exact hlo
      · show (List.replicate m4.pu.length _).length = _
        rw [List.length_replicate, hc.pu]; exact hpu
theorem step_keeps {p : Nums} {L : List K} {d : List Int} {A : List Int} {R : List C} {m : M} (hs : Sound p L d) (hg : Good p L d m) : Good p L d (stepN L A R m) := by
  cases h : doneB L.length m with
  | true => rw [step_done h]; exact hg
  | false => exact (step_good hs hg h).1
theorem run_keeps {p : Nums} {L : List K} {d : List Int} {A : List Int} {R : List C} {m : M} (hs : Sound p L d) (hg : Good p L d m) : ∀ k, Good p L d (runN L A R m k)
  | 0 => hg
  | k + 1 => step_keeps hs (run_keeps hs hg k)
/-- how far it is -/
def leftM (n : Nat) (m : M) : Nat := if m.ended then 0 else n - m.at_
theorem left_zero {L : List K} {m : M} (hp : m.at_ ≤ L.length) (h : leftM L.length m = 0) : doneB L.length m = true := by
  unfold leftM at h
  unfold doneB
  cases he : m.ended with
  | true => rfl
  | false => rw [he] at h; simp at h; simp; omega
theorem step_left {p : Nums} {L : List K} {d : List Int} {A : List Int} {R : List C} {m : M} (hs : Sound p L d) (hg : Good p L d m) (h : doneB L.length m = false) : leftM L.length (stepN L A R m) < leftM L.length m := by
  obtain ⟨h1, _, h3⟩ := step_good (A := A) (R := R) hs hg h
  simp only [doneB, Bool.or_eq_false_iff, decide_eq_false_iff_not] at h
  have := hg.pl
  have := h1.pl
  unfold leftM
  rw [h.1]
  rcases h3 with h3 | h3
  · rw [h3]; simp; omega
  · split <;> simp <;> omega
/-- THE LAST STATE -/
def lastM (L : List K) (A : List Int) (R : List C) (m : M) : M := runN L A R m L.length
theorem run_left {p : Nums} {L : List K} {d : List Int} {A : List Int} {R : List C} {m : M} (hs : Sound p L d) (hg : Good p L d m) : ∀ k, doneB L.length (runN L A R m k) = true ∨ leftM L.length (runN L A R m k) + k ≤ leftM L.length m
  | 0 => .inr (Nat.le_refl _)
  | k + 1 => by
    rcases run_left hs hg k with h | h
    · left
      show doneB _ (stepN _ _ _ _) = true
      rw [step_done h]; exact h
    · cases hd : doneB L.length (runN L A R m k) with
      | true => left; show doneB _ (stepN _ _ _ _) = true; rw [step_done hd]; exact hd
      | false =>
        right
        have := step_left (A := A) (R := R) hs (run_keeps hs hg k) hd
        show leftM _ (stepN _ _ _ _) + _ ≤ _
        omega
theorem left_le (n : Nat) (m : M) : leftM n m ≤ n := by unfold leftM; split <;> omega
theorem last_done {p : Nums} {L : List K} {d : List Int} {A : List Int} {R : List C} {m : M} (hs : Sound p L d) (hg : Good p L d m) : doneB L.length (lastM L A R m) = true := by
  rcases run_left (A := A) (R := R) hs hg L.length with h | h
  · exact h
  · have := left_le L.length m
    exact left_zero (run_keeps hs hg _).pl (by unfold lastM; omega)
/-- a way that has come to its end stays there -/
theorem run_stuck {L : List K} {A : List Int} {R : List C} {m : M} {k : Nat} (h : doneB L.length (runN L A R m k) = true) : ∀ j, k ≤ j → runN L A R m j = runN L A R m k
  | 0, hj => by obtain rfl : k = 0 := by omega
                rfl
  | j + 1, hj => by
    by_cases e : k = j + 1
    · rw [e]
    · have ih := run_stuck h j (by omega)
      show stepN _ _ _ (runN L A R m j) = _
      rw [ih, step_done h]
theorem last_eq {p : Nums} {L : List K} {d : List Int} {A : List Int} {R : List C} {m : M} (hs : Sound p L d) (hg : Good p L d m) {k : Nat} (h : doneB L.length (runN L A R m k) = true) : runN L A R m k = lastM L A R m := by
  by_cases hk : k ≤ L.length
  · exact (run_stuck h L.length hk).symm
  · exact run_stuck (last_done (A := A) (R := R) hs hg) k (by omega)
end Go.Proofs.Ytbpgafchagpmoaa
