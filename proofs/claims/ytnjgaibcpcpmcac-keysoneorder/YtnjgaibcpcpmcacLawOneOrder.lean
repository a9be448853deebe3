/-
  THE WALK OF KeysOneOrder.
-/
import Derived.Test.YtnjgaibcpcpmcacKCmp
namespace Go.Proofs.Ytnjgaibcpcpmcac
open Go.RowKit Go.Sort

theorem cmp_three (a b : K) : cmp a b = -1 ∨ cmp a b = 0 ∨ cmp a b = 1 := by
  unfold cmp; cases lt a b <;> cases lt b a <;> simp
theorem cmp_swap (a b : K) : cmp b a = -cmp a b := by
  unfold cmp
  cases h1 : lt a b <;> cases h2 : lt b a <;> simp
  rw [lt_asymm h1] at h2; cases h2
theorem cmp_m1 {a b : K} (h : cmp a b = -1) : lt a b = true := by rw [← cmp_neg]; omega
theorem cmp_p1 {a b : K} (h : cmp a b = 1) : lt b a = true := by rw [← cmp_neg, cmp_swap]; omega
/-- what the three may be -/
theorem cmp_tri (a b c : K) (x y z : Int) (hx : cmp a b = x) (hy : cmp b c = y) (hz : cmp a c = z) :
    (x = 0 ∧ z = y ∧ (y = -1 ∨ y = 0 ∨ y = 1)) ∨ (x = -1 ∧ ((y = -1 ∧ z = -1) ∨ (y = 0 ∧ z = -1) ∨ (y = 1 ∧ (z = -1 ∨ z = 0 ∨ z = 1)))) ∨
    (x = 1 ∧ ((y = 1 ∧ z = 1) ∨ (y = 0 ∧ z = 1) ∨ (y = -1 ∧ (z = -1 ∨ z = 0 ∨ z = 1)))) := by
  have tz := cmp_three a c
  rcases cmp_three a b with h | h | h <;> rcases cmp_three b c with k | k | k
  · have := cmp_lt (lt_trans (cmp_m1 h) (cmp_m1 k)); omega
  · have e := (cmp_zero b c).1 k; subst e; omega
  · omega
  · rw [← (cmp_zero a b).1 h] at hy; omega
  · rw [← (cmp_zero a b).1 h] at hy; omega
  · rw [← (cmp_zero a b).1 h] at hy; omega
  · omega
  · have e := (cmp_zero b c).1 k; subst e; omega
  · have := cmp_gt (lt_trans (cmp_p1 k) (cmp_p1 h)); omega

set_option maxHeartbeats 4000000 in
set_option maxRecDepth 100000 in
theorem oneOrder_walk (w : World) (a1 a2 b1 b2 c1 c2 : Int) :
    Calls Try.prog 3 #[.agg #[.int .i64 a1, .int .i64 a2], .agg #[.int .i64 b1, .int .i64 b2], .agg #[.int .i64 c1, .int .i64 c2]] w fun e w' => e = .returned (.bool true) ∧ Below w.heap.size w w' := by
  have hab := fun (w : World) => compare_any w a1 a2 b1 b2
  have hbc := fun (w : World) => compare_any w b1 b2 c1 c2
  have hac := fun (w : World) => compare_any w a1 a2 c1 c2
  have hba := fun (w : World) => compare_any w b1 b2 a1 a2
  have hq := run_eqKey a1 a2 b1 b2
  have hg := fun op x y => run_eqGuard op x y a1 a2 b1 b2
  rw [cmp_swap] at hba
  have HT : Hid _ := cmp_tri (a1, a2) (b1, b2) (c1, c2) _ _ _ rfl rfl rfl
  have HX : Hid _ := cmp_zero (a1, a2) (b1, b2)
  have HL : Hid (cmp (a1, a2) (b1, b2) = -1 → a1 < b1 ∨ (a1 = b1 ∧ a2 < b2)) := fun h => by have := cmp_m1 h; rwa [lt_iff] at this
  have HM : Hid (cmp (a1, a2) (b1, b2) = 1 → b1 < a1 ∨ (b1 = a1 ∧ b2 < a2)) := fun h => by have := cmp_p1 h; rwa [lt_iff] at this
  generalize cmp (a1, a2) (b1, b2) = x at *
  generalize cmp (b1, b2) (c1, c2) = y at *
  generalize cmp (a1, a2) (c1, c2) = z at *
  have HQ : (x = 0 ∧ decide ((a1, a2) = (b1, b2)) = true ∧ a1 = b1 ∧ ¬ a2 < b2) ∨ (x ≠ 0 ∧ decide ((a1, a2) = (b1, b2)) = false) := by
    by_cases h : x = 0
    · have e := HX.out.1 h
      refine .inl ⟨h, by simpa using e, ?_⟩
      simp only [Prod.mk.injEq] at e
      omega
    · exact .inr ⟨h, by rw [decide_eq_false_iff_not]; exact fun e => h (HX.out.2 e)⟩
  generalize decide ((a1, a2) = (b1, b2)) = eq at *
  have HC : Hid ((x = 0 ∧ eq = true ∧ a1 = b1 ∧ ¬ a2 < b2) ∨ (x = -1 ∧ eq = false ∧ a1 = b1 ∧ a2 < b2) ∨ (x = -1 ∧ eq = false ∧ a1 < b1) ∨ (x = 1 ∧ eq = false ∧ a1 = b1 ∧ b2 < a2) ∨ (x = 1 ∧ eq = false ∧ b1 < a1)) := by
    rw [Hid]
    have h1 := HL.out; have h2 := HM.out; have h3 := HT.out
    rcases HQ with ⟨h, he, ht⟩ | ⟨h, he⟩
    · exact .inl ⟨h, he, ht⟩
    · rcases h3 with h3 | h3 | h3
      · exact absurd h3.1 h
      · rcases h1 h3.1 with k | k
        · exact .inr (.inr (.inl ⟨h3.1, he, k⟩))
        · exact .inr (.inl ⟨h3.1, he, k⟩)
      · rcases h2 h3.1 with k | k
        · exact .inr (.inr (.inr (.inr ⟨h3.1, he, k⟩)))
        · exact .inr (.inr (.inr (.inl ⟨h3.1, he, k.1.symm, k.2⟩)))
  clear HQ HX HL HM
  go_enter Try.func3, Try.ntmps3
  go_wp2_with fail
  have B0 : Hid (Box (((w.alloc (.cells #[.int .i64 a1, .int .i64 a2] 23)).alloc (.cells #[.int .i64 b1, .int .i64 b2] 23)).alloc (.cells #[.int .i64 c1, .int .i64 c2] 23)) w.heap.size a1 a2) := ((Box.new rfl).alloc _).alloc _
  have B1 : Hid (Box (((w.alloc (.cells #[.int .i64 a1, .int .i64 a2] 23)).alloc (.cells #[.int .i64 b1, .int .i64 b2] 23)).alloc (.cells #[.int .i64 c1, .int .i64 c2] 23)) (w.heap.size + 1) b1 b2) := (Box.new (by simp)).alloc _
  have B2 : Hid (Box (((w.alloc (.cells #[.int .i64 a1, .int .i64 a2] 23)).alloc (.cells #[.int .i64 b1, .int .i64 b2] 23)).alloc (.cells #[.int .i64 c1, .int .i64 c2] 23)) (w.heap.size + 1 + 1) c1 c2) := Box.new (by simp)
  have HG : Hid (Grew w (((w.alloc (.cells #[.int .i64 a1, .int .i64 a2] 23)).alloc (.cells #[.int .i64 b1, .int .i64 b2] 23)).alloc (.cells #[.int .i64 c1, .int .i64 c2] 23))) := (((Grew.refl _).alloc _).alloc _).alloc _
  generalize ((w.alloc (.cells #[.int .i64 a1, .int .i64 a2] 23)).alloc (.cells #[.int .i64 b1, .int .i64 b2] 23)).alloc (.cells #[.int .i64 c1, .int .i64 c2] 23) = W at *
  refine (hab _).mono ?_
  rintro e w1 ⟨rfl, g1⟩
  have HG1 : Hid (Grew w w1) := HG.out.trans g1
  have B1' : Hid (Box w1 (w.heap.size + 1) b1 b2) := B1.out.grew g1
  have B2' : Hid (Box w1 (w.heap.size + 1 + 1) c1 c2) := B2.out.grew g1
  have B0' : Hid (Box w1 w.heap.size a1 a2) := B0.out.grew g1
  obtain ⟨p1, p2⟩ := B1'.out
  obtain ⟨p3, p4⟩ := B2'.out
  clear g1 B0 B1 B2 HG
  go_wp2_with fail
  refine (hbc _).mono ?_
  rintro e w2 ⟨rfl, g2⟩
  have HG2 : Hid (Grew w w2) := HG1.out.trans g2
  have B0 : Hid (Box w2 w.heap.size a1 a2) := B0'.out.grew g2
  have B1 : Hid (Box w2 (w.heap.size + 1) b1 b2) := B1'.out.grew g2
  have B2 : Hid (Box w2 (w.heap.size + 1 + 1) c1 c2) := B2'.out.grew g2
  clear p1 p2 p3 p4 g2 B0' B1' B2' HG1
  obtain ⟨p1, p2⟩ := B0.out
  obtain ⟨p3, p4⟩ := B2.out
  go_wp2_with fail
  refine (hac _).mono ?_
  rintro e w3 ⟨rfl, g3⟩
  have HG3 : Hid (Grew w w3) := HG2.out.trans g3
  have B0' : Hid (Box w3 w.heap.size a1 a2) := B0.out.grew g3
  have B1' : Hid (Box w3 (w.heap.size + 1) b1 b2) := B1.out.grew g3
  clear p1 p2 p3 p4 g3 B0 B1 B2 HG2
  obtain ⟨p1, p2⟩ := B0'.out
  obtain ⟨p3, p4⟩ := B1'.out
  go_wp2_with fail
  refine (hba _).mono ?_
  rintro e w4 ⟨rfl, g4⟩
  have HG4 : Hid (Grew w w4) := HG3.out.trans g4
  have B0 : Hid (Box w4 w.heap.size a1 a2) := B0'.out.grew g4
  have B1 : Hid (Box w4 (w.heap.size + 1) b1 b2) := B1'.out.grew g4
  clear p1 p2 p3 p4 g4 B0' B1' HG3 hab hbc hac hba
  obtain ⟨p1, p2⟩ := B0.out
  obtain ⟨p3, p4⟩ := B1.out
  have KT := HT.out
  have KC := HC.out
  clear HT HC B0 B1
  have he1 : ∀ {p q : Int}, p < q → (p == q) = false := fun h => by simp; omega
  have he2 : ∀ {p q : Int}, q < p → (p == q) = false := fun h => by simp; omega
  rcases KC with ⟨rfl, rfl, rfl, h2⟩ | ⟨rfl, rfl, rfl, h2⟩ | ⟨rfl, rfl, h1⟩ | ⟨rfl, rfl, rfl, h2⟩ | ⟨rfl, rfl, h1⟩
  · have h2' : decide (a2 < b2) = false := by simpa using h2
    obtain ⟨rfl, h3⟩ : z = y ∧ (y = -1 ∨ y = 0 ∨ y = 1) := by omega
    clear KT
    rcases h3 with rfl | rfl | rfl
    all_goals (go_wp2; go_ret; exact ⟨rfl, HG4.out.below⟩)
  · have h2' : decide (a2 < b2) = true := by simpa using h2
    have h3 : (y = -1 ∧ z = -1) ∨ (y = 0 ∧ z = -1) ∨ (y = 1 ∧ z = -1) ∨ (y = 1 ∧ z = 0) ∨ (y = 1 ∧ z = 1) := by omega
    clear KT
    rcases h3 with ⟨rfl, rfl⟩ | ⟨rfl, rfl⟩ | ⟨rfl, rfl⟩ | ⟨rfl, rfl⟩ | ⟨rfl, rfl⟩
    all_goals (go_wp2; go_ret; exact ⟨rfl, HG4.out.below⟩)
  · have h2' : decide (a1 < b1) = true := by simpa using h1
    have h2'' : (a1 == b1) = false := he1 h1
    have h2''' : (a1 != b1) = true := by simp; omega
    have h3 : (y = -1 ∧ z = -1) ∨ (y = 0 ∧ z = -1) ∨ (y = 1 ∧ z = -1) ∨ (y = 1 ∧ z = 0) ∨ (y = 1 ∧ z = 1) := by omega
    clear KT
    rcases h3 with ⟨rfl, rfl⟩ | ⟨rfl, rfl⟩ | ⟨rfl, rfl⟩ | ⟨rfl, rfl⟩ | ⟨rfl, rfl⟩
    all_goals (go_wp2; go_ret; exact ⟨rfl, HG4.out.below⟩)
  · have h2' : decide (a2 < b2) = false := by simp; omega
    have h3 : (y = 1 ∧ z = 1) ∨ (y = 0 ∧ z = 1) ∨ (y = -1 ∧ z = -1) ∨ (y = -1 ∧ z = 0) ∨ (y = -1 ∧ z = 1) := by omega
    clear KT
    rcases h3 with ⟨rfl, rfl⟩ | ⟨rfl, rfl⟩ | ⟨rfl, rfl⟩ | ⟨rfl, rfl⟩ | ⟨rfl, rfl⟩
    all_goals (go_wp2; go_ret; exact ⟨rfl, HG4.out.below⟩)
  · have h2' : decide (a1 < b1) = false := by simp; omega
    have h2'' : (a1 == b1) = false := he2 h1
    have h2''' : (a1 != b1) = true := by simp; omega
    have h3 : (y = 1 ∧ z = 1) ∨ (y = 0 ∧ z = 1) ∨ (y = -1 ∧ z = -1) ∨ (y = -1 ∧ z = 0) ∨ (y = -1 ∧ z = 1) := by omega
    clear KT
    rcases h3 with ⟨rfl, rfl⟩ | ⟨rfl, rfl⟩ | ⟨rfl, rfl⟩ | ⟨rfl, rfl⟩ | ⟨rfl, rfl⟩
    all_goals (go_wp2; go_ret; exact ⟨rfl, HG4.out.below⟩)

end Go.Proofs.Ytnjgaibcpcpmcac
