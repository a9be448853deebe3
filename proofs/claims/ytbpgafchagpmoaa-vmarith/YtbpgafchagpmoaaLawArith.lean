/-
  VmArith: THE WALK.
-/
import Derived.Test.YtbpgafchagpmoaaXArith
namespace Go.Proofs.Ytbpgafchagpmoaa
open Go.RowKit Go.Sort

def opsL : List Int := [10, 11, 12, 13, 14, 15, 16, 17, 18, 19, 22, 23, 24, 25, 26, 27, 28, 29]
theorem opsL_pair (k : Nat) (hk : k < 18) : isPair (opsL.getD k 0) := by
  unfold isPair
  obtain rfl | rfl | rfl | rfl | rfl | rfl | rfl | rfl | rfl | rfl | rfl | rfl | rfl | rfl | rfl | rfl | rfl | rfl : k = 0 ∨ k = 1 ∨ k = 2 ∨ k = 3 ∨ k = 4 ∨ k = 5 ∨ k = 6 ∨ k = 7 ∨ k = 8 ∨ k = 9 ∨ k = 10 ∨ k = 11 ∨ k = 12 ∨ k = 13 ∨ k = 14 ∨ k = 15 ∨ k = 16 ∨ k = 17 := by omega
  all_goals decide
def opsC : Array Value := #[.int .i64 10, .int .i64 11, .int .i64 12, .int .i64 13, .int .i64 14, .int .i64 15, .int .i64 16, .int .i64 17, .int .i64 18, .int .i64 19, .int .i64 22, .int .i64 23, .int .i64 24, .int .i64 25, .int .i64 26, .int .i64 27, .int .i64 28, .int .i64 29]
abbrev opsW (w : World) : World := (w.alloc (.cells #[.int .i64 0, .int .i64 0, .int .i64 0, .int .i64 0, .int .i64 0, .int .i64 0, .int .i64 0, .int .i64 0, .int .i64 0, .int .i64 0, .int .i64 0, .int .i64 0, .int .i64 0, .int .i64 0, .int .i64 0, .int .i64 0, .int .i64 0, .int .i64 0] 68)).setRow w.heap.size opsC
theorem ops_cell (w : World) (k : Nat) (hk : k < 18) : (opsW w).cell? ⟨w.heap.size, k, none⟩ = some (.int .i64 (opsL.getD k 0)) := by
  have hh := setRow_heap _ w.heap.size _ opsC 68 (0, 0) (heap_alloc_new (w := w) (.cells #[.int .i64 0, .int .i64 0, .int .i64 0, .int .i64 0, .int .i64 0, .int .i64 0, .int .i64 0, .int .i64 0, .int .i64 0, .int .i64 0, .int .i64 0, .int .i64 0, .int .i64 0, .int .i64 0, .int .i64 0, .int .i64 0, .int .i64 0, .int .i64 0] 68) w.heap.size rfl)
  rw [World.cell?, hh]
  obtain rfl | rfl | rfl | rfl | rfl | rfl | rfl | rfl | rfl | rfl | rfl | rfl | rfl | rfl | rfl | rfl | rfl | rfl : k = 0 ∨ k = 1 ∨ k = 2 ∨ k = 3 ∨ k = 4 ∨ k = 5 ∨ k = 6 ∨ k = 7 ∨ k = 8 ∨ k = 9 ∨ k = 10 ∨ k = 11 ∨ k = 12 ∨ k = 13 ∨ k = 14 ∨ k = 15 ∨ k = 16 ∨ k = 17 := by omega
  all_goals rfl
theorem pair_kinds {op x y : Int} (h : isPair op) : ((pairN op x y).2 = 0 ∧ ((op = 13 ∧ y ≠ 0) ∨ (op = 14 ∧ y ≠ 0) ∨ (op = 18 ∧ ¬ y < 0) ∨ (op = 19 ∧ ¬ y < 0) ∨ (op ≠ 13 ∧ op ≠ 14 ∧ op ≠ 18 ∧ op ≠ 19))) ∨
    ((pairN op x y).2 = 201 ∧ (op = 13 ∨ op = 14) ∧ y = 0) ∨ ((pairN op x y).2 = 202 ∧ (op = 18 ∨ op = 19) ∧ y < 0) := by
  rcases pair_cases h with rfl | rfl | rfl | rfl | rfl | rfl | rfl | rfl | rfl | rfl | rfl | rfl | rfl | rfl | rfl | rfl | rfl | rfl
  case inr.inr.inr.inl => by_cases hy : y = 0 <;> simp [pairN, hy]
  case inr.inr.inr.inr.inl => by_cases hy : y = 0 <;> simp [pairN, hy]
  case inr.inr.inr.inr.inr.inr.inr.inr.inl => by_cases hy : y < 0 <;> simp [pairN, hy] <;> omega
  case inr.inr.inr.inr.inr.inr.inr.inr.inr.inl => by_cases hy : y < 0 <;> simp [pairN, hy] <;> omega
  all_goals exact .inl ⟨rfl, .inr (.inr (.inr (.inr (by decide))))⟩
theorem new_word (W : World) (v : Int) (b : Nat) (hb : b = W.heap.size) : CellsAt (W.alloc (o1 v)) (some ⟨b, 0, none⟩) ([v].map iv) := by
  refine .inr ⟨b, 0, rfl, fun j u hu => ?_⟩
  rw [Nat.zero_add, World.cell?, heap_alloc_new _ _ hb]
  show (#[Value.int .i64 v] : Array Value)[j]? = some u
  simpa using hu
abbrev cO4 (x y op : Int) : Obj := .cells #[.int .i64 1, .int .i64 x, .int .i64 1, .int .i64 y, .int .i64 op, .int .i64 0, .int .i64 35, .int .i64 0] 66
set_option maxRecDepth 100000 in
set_option maxHeartbeats 1000000 in
theorem arith_walk (w : World) (wh x y : Int) :
    Calls Try.prog 8 #[.int .i64 wh, .int .i64 x, .int .i64 y] w fun e w' => e = .returned (.bool true) ∧ Go.RowKit.Below w.heap.size w w' := by
  have hu : 0 ≤ IntKind.u64.wrap wh := by simp [IntKind.wrap, IntKind.bits, IntKind.signed]; omega
  obtain ⟨k, hk⟩ : ∃ k : Nat, (IntKind.u64.wrap wh).tmod 18 = (k : Int) := ⟨((IntKind.u64.wrap wh).tmod 18).toNat, by
    have := Int.tmod_nonneg 18 hu
    omega⟩
  have hk18 : k < 18 := by
    have := Int.tmod_lt_of_pos (IntKind.u64.wrap wh) (by decide : (0 : Int) < 18)
    omega
  have hcell := ops_cell w k hk18
  have HP : Hid (isPair (opsL.getD k 0)) := opsL_pair k hk18
  have HB1 : Hid (Go.RowKit.Below w.heap.size w (opsW w)) := ((Below.refl _ _).alloc (Nat.le_refl _) _).trans (below_setRow _ (Nat.le_refl _))
  clear hu
  go_enter Try.func8, Try.ntmps8
  go_upto_region 2 with (first | (refine wpList_built rfl 68 _ rfl opsC (by kernel_rfl) ?_) | (refine wpList_store_row rfl _ _ _ rfl w.heap.size opsC rfl rfl 68 _ (heap_alloc_new _ _ rfl) (by kernel_rfl) (by kernel_rfl) (by kernel_rfl) ?_))
  unfold opsW at hcell HB1
  generalize (w.alloc (.cells #[.int .i64 0, .int .i64 0, .int .i64 0, .int .i64 0, .int .i64 0, .int .i64 0, .int .i64 0, .int .i64 0, .int .i64 0, .int .i64 0, .int .i64 0, .int .i64 0, .int .i64 0, .int .i64 0, .int .i64 0, .int .i64 0, .int .i64 0, .int .i64 0] 68)).setRow w.heap.size opsC = W1 at *
  generalize opsL.getD k 0 = op at *
  have HK : Hid (CallIn ((W1.alloc (cO4 x y op)).alloc (pO arP (some ⟨W1.heap.size, 0, none⟩) 4 4)) arP (some ⟨W1.heap.size, 0, none⟩) 4 4 (arL op x y) none 0 0 [] none 0 0 []) := by
    refine ⟨by unfold NIn In64 arP; decide, .inr ⟨W1.heap.size, 0, rfl, fun j u hu => ?_⟩, rfl, fun e => (by cases e), ⟨.inl rfl, fun _ => ⟨rfl, rfl⟩⟩, rfl, ⟨.inl rfl, fun _ => ⟨rfl, rfl⟩⟩, rfl⟩
    rw [Nat.zero_add, World.cell?, heap_alloc_old _ _ (by simp), heap_alloc_new _ _ rfl]
    show (#[Value.int .i64 1, .int .i64 x, .int .i64 1, .int .i64 y, .int .i64 op, .int .i64 0, .int .i64 35, .int .i64 0] : Array Value)[j]? = some u
    simpa [arL, cks] using hu
  have HB2 : Hid (Go.RowKit.Below w.heap.size w ((W1.alloc (cO4 x y op)).alloc (pO arP (some ⟨W1.heap.size, 0, none⟩) 4 4))) := HB1.out.trans ((((Below.refl _ _).alloc (Nat.le_refl _) _).alloc (by simp) _).mono HB1.out.size)
  have HR := run_use _ _ _ _ _ _ _ _ _ _ _ _ _ _ HK.out
  rw [ar_new HP.out, ar_run HP.out] at HR
  rcases pair_kinds (x := x) (y := y) HP.out with ⟨h0, hk5⟩ | ⟨h0, hop, hy⟩ | ⟨h0, hop, hy⟩
  · rw [if_pos h0] at HR
    have HRk := reckoned_any op HP.out
    have H0 : Hid ((pairN op x y).2 = 0) := h0
    obtain ⟨v, hv⟩ : ∃ v, v = (pairN op x y).1 := ⟨_, rfl⟩
    have HRk' : Hid (∀ W, Calls Try.prog 25 #[.int .i64 op, .int .i64 x, .int .i64 y] W fun e w' => e = .returned (.int .i64 v) ∧ w' = W) := fun W => by rw [hv]; exact HRk W x y H0.out
    rw [← hv] at HR
    clear h0 HRk hv
    rcases hk5 with ⟨rfl, hy⟩ | ⟨rfl, hy⟩ | ⟨rfl, hy⟩ | ⟨rfl, hy⟩ | ⟨h1, h2, h3, h4⟩
    all_goals (
      try (have hy' : (y == 0) = false := by simpa using hy)
      try (have g13 : (op == 13) = false := by simpa using h1)
      try (have g14 : (op == 14) = false := by simpa using h2)
      try (have g18 : (op == 18) = false := by simpa using h3)
      try (have g19 : (op == 19) = false := by simpa using h4)
      go_wp2_with fail
      refine HR.mono ?_
      rintro e w3 ⟨a1, k1, a2, k2, rfl, he3, hb3⟩
      have HB3 : Hid (Go.RowKit.Below w.heap.size w w3) := HB2.out.trans (hb3.mono HB2.out.size)
      have HE3 : Hid (EfR w3 a1 a2 ⟨true, 0, 0, [v], [], 4⟩) := he3
      clear hb3 he3 HR
      go_wp2_with fail
      refine (HRk'.out _).mono ?_
      rintro e w4 ⟨rfl, rfl⟩
      go_wp2_with fail
      have hbA : Go.RowKit.Below w3.heap.size w3 (((w3.alloc (eQ true 0 0 a1 1 k1 a2 0 k2 4)).alloc (eQ true 0 0 (some ⟨w3.heap.size + 1 + 1, 0, none⟩) 1 1 none 0 0 4)).alloc (o1 v)) := (((Below.refl _ _).alloc (Nat.le_refl _) _).alloc (by simp) _).alloc (by simp; omega) _
      have HB5 : Hid (Go.RowKit.Below w.heap.size w (((w3.alloc (eQ true 0 0 a1 1 k1 a2 0 k2 4)).alloc (eQ true 0 0 (some ⟨w3.heap.size + 1 + 1, 0, none⟩) 1 1 none 0 0 4)).alloc (o1 v))) := HB3.out.trans (hbA.mono HB3.out.size)
      refine (sameEffect_g _ true 0 0 4 [v] [] 1 0 rfl rfl a1 a2 (some ⟨w3.heap.size + 1 + 1, 0, none⟩) none k1 k2 1 0 (HE3.out.1.below hbA) (HE3.out.2.below hbA) (new_word _ _ _ (by simp)) (.inl rfl) (by omega) (by omega)).mono ?_
      rintro e w6 ⟨rfl, hb6⟩
      have HB6 : Hid (Go.RowKit.Below w.heap.size w w6) := HB5.out.trans (hb6.mono HB5.out.size)
      clear hb6 hbA HB5
      go_wp2
      go_ret
      exact ⟨rfl, HB6.out⟩)
  · rw [h0, if_neg (by decide)] at HR
    subst hy
    rcases hop with rfl | rfl
    all_goals (
      go_wp2_with fail
      refine HR.mono ?_
      rintro e w3 ⟨a1, k1, a2, k2, rfl, he3, hb3⟩
      have HB3 : Hid (Go.RowKit.Below w.heap.size w w3) := HB2.out.trans (hb3.mono HB2.out.size)
      clear hb3 he3 HR
      go_wp2_with fail
      have HB5 : Hid (Go.RowKit.Below w.heap.size w ((w3.alloc (eQ false 201 0 a1 0 k1 a2 0 k2 3)).alloc (eQ false 201 0 none 0 0 none 0 0 3))) := HB3.out.trans ((((Below.refl _ _).alloc (Nat.le_refl _) _).alloc (by simp) _).mono HB3.out.size)
      refine (sameEffect_g _ false 201 0 3 [] [] 0 0 rfl rfl a1 a2 none none k1 k2 0 0 (.inl rfl) (.inl rfl) (.inl rfl) (.inl rfl) (by omega) (by omega)).mono ?_
      rintro e w6 ⟨rfl, hb6⟩
      have HB6 : Hid (Go.RowKit.Below w.heap.size w w6) := HB5.out.trans (hb6.mono HB5.out.size)
      clear hb6 HB5
      go_wp2
      go_ret
      exact ⟨rfl, HB6.out⟩)
  · rw [h0, if_neg (by decide)] at HR
    rcases hop with rfl | rfl
    all_goals (
      go_wp2_with fail
      refine HR.mono ?_
      rintro e w3 ⟨a1, k1, a2, k2, rfl, he3, hb3⟩
      have HB3 : Hid (Go.RowKit.Below w.heap.size w w3) := HB2.out.trans (hb3.mono HB2.out.size)
      clear hb3 he3 HR
      go_wp2_with fail
      have HB5 : Hid (Go.RowKit.Below w.heap.size w ((w3.alloc (eQ false 202 0 a1 0 k1 a2 0 k2 3)).alloc (eQ false 202 0 none 0 0 none 0 0 3))) := HB3.out.trans ((((Below.refl _ _).alloc (Nat.le_refl _) _).alloc (by simp) _).mono HB3.out.size)
      refine (sameEffect_g _ false 202 0 3 [] [] 0 0 rfl rfl a1 a2 none none k1 k2 0 0 (.inl rfl) (.inl rfl) (.inl rfl) (.inl rfl) (by omega) (by omega)).mono ?_
      rintro e w6 ⟨rfl, hb6⟩
      have HB6 : Hid (Go.RowKit.Below w.heap.size w w6) := HB5.out.trans (hb6.mono HB5.out.size)
      clear hb6 HB5
      go_wp2
      go_ret
      exact ⟨rfl, HB6.out⟩)
end Go.Proofs.Ytbpgafchagpmoaa
