/-
  THE INSTRUCTIONS WITH TWO VALUES.
-/
import Derived.Test.YtbpgafchagpmoaaLNames
import Derived.Test.YtbpgafchagpmoaaXPure
namespace Go.Proofs.Ytbpgafchagpmoaa
open Go.RowKit Go.Sort

theorem truth_any (w : World) (b : Bool) : Calls Try.prog 54 #[.bool b] w fun e w' => e = .returned (.int .i64 (trN b)) ∧ w' = w := by
  cases b <;>
  (go_enter Try.func54, Try.ntmps54
   go_wp2
   go_ret
   exact ⟨rfl, rfl⟩)
abbrev pairRet (op x y : Int) : Ending := .returned (.tuple #[.int .i64 (pairN op x y).1, .int .i64 (pairN op x y).2])
theorem fn10 (w : World) (x y : Int) : Calls Try.prog 81 #[.int .i64 x, .int .i64 y] w fun e w' => e = pairRet 10 x y ∧ w' = w := by
  go_enter Try.func81, Try.ntmps81
  go_wp2
  go_ret2
  exact ⟨rfl, rfl⟩
theorem fn11 (w : World) (x y : Int) : Calls Try.prog 82 #[.int .i64 x, .int .i64 y] w fun e w' => e = pairRet 11 x y ∧ w' = w := by
  go_enter Try.func82, Try.ntmps82
  go_wp2
  go_ret2
  exact ⟨rfl, rfl⟩
theorem fn12 (w : World) (x y : Int) : Calls Try.prog 83 #[.int .i64 x, .int .i64 y] w fun e w' => e = pairRet 12 x y ∧ w' = w := by
  go_enter Try.func83, Try.ntmps83
  go_wp2
  go_ret2
  exact ⟨rfl, rfl⟩
theorem fn13 (w : World) (x y : Int) : Calls Try.prog 84 #[.int .i64 x, .int .i64 y] w fun e w' => e = pairRet 13 x y ∧ w' = w := by
  by_cases h0 : y = 0
  · subst h0
    go_enter Try.func84, Try.ntmps84
    go_wp2
    go_ret2
    exact ⟨rfl, rfl⟩
  · have h1 : (y == 0) = false := by simpa using h0
    have HE : Hid (pairN 13 x y = (wrap64 (x.tdiv y), 0)) := by
      show pairN 13 x y = _
      simp [pairN, h0]
    go_enter Try.func84, Try.ntmps84
    go_wp2
    go_ret2
    exact ⟨by rw [pairRet, HE.out]; rfl, rfl⟩
theorem fn14 (w : World) (x y : Int) : Calls Try.prog 85 #[.int .i64 x, .int .i64 y] w fun e w' => e = pairRet 14 x y ∧ w' = w := by
  by_cases h0 : y = 0
  · subst h0
    go_enter Try.func85, Try.ntmps85
    go_wp2
    go_ret2
    exact ⟨rfl, rfl⟩
  · have h1 : (y == 0) = false := by simpa using h0
    have HE : Hid (pairN 14 x y = (x.tmod y, 0)) := by
      show pairN 14 x y = _
      simp [pairN, h0]
    go_enter Try.func85, Try.ntmps85
    go_wp2
    go_ret2
    exact ⟨by rw [pairRet, HE.out]; rfl, rfl⟩
theorem fn15 (w : World) (x y : Int) : Calls Try.prog 86 #[.int .i64 x, .int .i64 y] w fun e w' => e = pairRet 15 x y ∧ w' = w := by
  go_enter Try.func86, Try.ntmps86
  go_wp2
  go_ret2
  exact ⟨rfl, rfl⟩
theorem fn16 (w : World) (x y : Int) : Calls Try.prog 87 #[.int .i64 x, .int .i64 y] w fun e w' => e = pairRet 16 x y ∧ w' = w := by
  go_enter Try.func87, Try.ntmps87
  go_wp2
  go_ret2
  exact ⟨rfl, rfl⟩
theorem fn17 (w : World) (x y : Int) : Calls Try.prog 88 #[.int .i64 x, .int .i64 y] w fun e w' => e = pairRet 17 x y ∧ w' = w := by
  go_enter Try.func88, Try.ntmps88
  go_wp2
  go_ret2
  exact ⟨rfl, rfl⟩
theorem fn18 (w : World) (x y : Int) : Calls Try.prog 89 #[.int .i64 x, .int .i64 y] w fun e w' => e = pairRet 18 x y ∧ w' = w := by
  by_cases h0 : y < 0
  · have HE : Hid (pairN 18 x y = (0, 202)) := by
      show pairN 18 x y = _
      simp [pairN, h0]
    go_enter Try.func89, Try.ntmps89
    go_wp2
    go_ret2
    exact ⟨by rw [pairRet, HE.out]; rfl, rfl⟩
  · have HE : Hid (pairN 18 x y = (wrap64 (x * 2 ^ min (IntKind.u64.wrap y).toNat 64), 0)) := by
      show pairN 18 x y = _
      simp [pairN, h0]
    go_enter Try.func89, Try.ntmps89
    go_wp2
    go_ret2
    exact ⟨by rw [pairRet, HE.out]; rfl, rfl⟩
theorem fn19 (w : World) (x y : Int) : Calls Try.prog 90 #[.int .i64 x, .int .i64 y] w fun e w' => e = pairRet 19 x y ∧ w' = w := by
  by_cases h0 : y < 0
  · have HE : Hid (pairN 19 x y = (0, 202)) := by
      show pairN 19 x y = _
      simp [pairN, h0]
    go_enter Try.func90, Try.ntmps90
    go_wp2
    go_ret2
    exact ⟨by rw [pairRet, HE.out]; rfl, rfl⟩
  · have HE : Hid (pairN 19 x y = (x / 2 ^ min (IntKind.u64.wrap y).toNat 64, 0)) := by
      show pairN 19 x y = _
      simp [pairN, h0]
    go_enter Try.func90, Try.ntmps90
    go_wp2
    go_ret2
    exact ⟨by rw [pairRet, HE.out]; rfl, rfl⟩
theorem fn22 (w : World) (x y : Int) : Calls Try.prog 91 #[.int .i64 x, .int .i64 y] w fun e w' => e = pairRet 22 x y ∧ w' = w := by
  go_enter Try.func91, Try.ntmps91
  go_wp2_with fail
  refine (truth_any w _).mono ?_
  rintro e w1 ⟨rfl, rfl⟩
  go_wp2
  go_ret2
  exact ⟨rfl, rfl⟩
theorem fn23 (w : World) (x y : Int) : Calls Try.prog 92 #[.int .i64 x, .int .i64 y] w fun e w' => e = pairRet 23 x y ∧ w' = w := by
  go_enter Try.func92, Try.ntmps92
  go_wp2_with fail
  refine (truth_any w _).mono ?_
  rintro e w1 ⟨rfl, rfl⟩
  go_wp2
  go_ret2
  exact ⟨rfl, rfl⟩
theorem fn24 (w : World) (x y : Int) : Calls Try.prog 93 #[.int .i64 x, .int .i64 y] w fun e w' => e = pairRet 24 x y ∧ w' = w := by
  go_enter Try.func93, Try.ntmps93
  go_wp2_with fail
  refine (truth_any w _).mono ?_
  rintro e w1 ⟨rfl, rfl⟩
  go_wp2
  go_ret2
  exact ⟨rfl, rfl⟩
theorem fn25 (w : World) (x y : Int) : Calls Try.prog 94 #[.int .i64 x, .int .i64 y] w fun e w' => e = pairRet 25 x y ∧ w' = w := by
  go_enter Try.func94, Try.ntmps94
  go_wp2_with fail
  refine (truth_any w _).mono ?_
  rintro e w1 ⟨rfl, rfl⟩
  go_wp2
  go_ret2
  exact ⟨rfl, rfl⟩
theorem fn26 (w : World) (x y : Int) : Calls Try.prog 95 #[.int .i64 x, .int .i64 y] w fun e w' => e = pairRet 26 x y ∧ w' = w := by
  go_enter Try.func95, Try.ntmps95
  go_wp2_with fail
  refine (truth_any w _).mono ?_
  rintro e w1 ⟨rfl, rfl⟩
  go_wp2
  go_ret2
  exact ⟨rfl, rfl⟩
theorem fn27 (w : World) (x y : Int) : Calls Try.prog 96 #[.int .i64 x, .int .i64 y] w fun e w' => e = pairRet 27 x y ∧ w' = w := by
  go_enter Try.func96, Try.ntmps96
  go_wp2_with fail
  refine (truth_any w _).mono ?_
  rintro e w1 ⟨rfl, rfl⟩
  go_wp2
  go_ret2
  exact ⟨rfl, rfl⟩
theorem fn28 (w : World) (x y : Int) : Calls Try.prog 97 #[.int .i64 x, .int .i64 y] w fun e w' => e = pairRet 28 x y ∧ w' = w := by
  go_enter Try.func97, Try.ntmps97
  go_wp2
  go_ret2
  exact ⟨rfl, rfl⟩
theorem fn29 (w : World) (x y : Int) : Calls Try.prog 98 #[.int .i64 x, .int .i64 y] w fun e w' => e = pairRet 29 x y ∧ w' = w := by
  go_enter Try.func98, Try.ntmps98
  go_wp2
  go_ret2
  exact ⟨rfl, rfl⟩
def fnCells : Array Value := #[.nilFunc, .nilFunc, .nilFunc, .nilFunc, .nilFunc, .nilFunc, .nilFunc, .nilFunc, .nilFunc, .nilFunc, .func (.func 81) #[] #[], .func (.func 82) #[] #[], .func (.func 83) #[] #[], .func (.func 84) #[] #[], .func (.func 85) #[] #[], .func (.func 86) #[] #[], .func (.func 87) #[] #[], .func (.func 88) #[] #[], .func (.func 89) #[] #[], .func (.func 90) #[] #[], .nilFunc, .nilFunc, .func (.func 91) #[] #[], .func (.func 92) #[] #[], .func (.func 93) #[] #[], .func (.func 94) #[] #[], .func (.func 95) #[] #[], .func (.func 96) #[] #[], .func (.func 97) #[] #[], .func (.func 98) #[] #[], .nilFunc, .nilFunc, .nilFunc, .nilFunc, .nilFunc, .nilFunc, .nilFunc]
set_option maxHeartbeats 400000 in
set_option maxRecDepth 100000 in
theorem pairs_any (w : World) : Calls Try.prog 73 #[] w fun e w' => e = .returned (.agg fnCells) ∧ Below w.heap.size w w' := by
  go_enter Try.func73, Try.ntmps73
  go_wp2_with (first | (refine wpList_built rfl 127 _ rfl fnCells (by kernel_rfl) ?_) | (refine wpList_store_row rfl _ _ _ rfl w.heap.size fnCells rfl rfl 127 _ (heap_alloc_new _ _ rfl) (by kernel_rfl) (by kernel_rfl) (by kernel_rfl) ?_))
  have hh := setRow_heap _ w.heap.size _ fnCells 127 (0, 0) (heap_alloc_new (w := w) (.cells #[.nilFunc, .nilFunc, .nilFunc, .nilFunc, .nilFunc, .nilFunc, .nilFunc, .nilFunc, .nilFunc, .nilFunc, .nilFunc, .nilFunc, .nilFunc, .nilFunc, .nilFunc, .nilFunc, .nilFunc, .nilFunc, .nilFunc, .nilFunc, .nilFunc, .nilFunc, .nilFunc, .nilFunc, .nilFunc, .nilFunc, .nilFunc, .nilFunc, .nilFunc, .nilFunc, .nilFunc, .nilFunc, .nilFunc, .nilFunc, .nilFunc, .nilFunc, .nilFunc] 127) w.heap.size rfl)
  have HB : Hid (Below w.heap.size w ((w.alloc (.cells #[.nilFunc, .nilFunc, .nilFunc, .nilFunc, .nilFunc, .nilFunc, .nilFunc, .nilFunc, .nilFunc, .nilFunc, .nilFunc, .nilFunc, .nilFunc, .nilFunc, .nilFunc, .nilFunc, .nilFunc, .nilFunc, .nilFunc, .nilFunc, .nilFunc, .nilFunc, .nilFunc, .nilFunc, .nilFunc, .nilFunc, .nilFunc, .nilFunc, .nilFunc, .nilFunc, .nilFunc, .nilFunc, .nilFunc, .nilFunc, .nilFunc, .nilFunc, .nilFunc] 127)).setRow w.heap.size fnCells)) := ((Below.refl _ _).alloc (Nat.le_refl _) _).trans (below_setRow _ (Nat.le_refl _))
  generalize (w.alloc (.cells #[.nilFunc, .nilFunc, .nilFunc, .nilFunc, .nilFunc, .nilFunc, .nilFunc, .nilFunc, .nilFunc, .nilFunc, .nilFunc, .nilFunc, .nilFunc, .nilFunc, .nilFunc, .nilFunc, .nilFunc, .nilFunc, .nilFunc, .nilFunc, .nilFunc, .nilFunc, .nilFunc, .nilFunc, .nilFunc, .nilFunc, .nilFunc, .nilFunc, .nilFunc, .nilFunc, .nilFunc, .nilFunc, .nilFunc, .nilFunc, .nilFunc, .nilFunc, .nilFunc] 127)).setRow w.heap.size fnCells = W at *
  have hr := World.rangeAt_of_block hh 0 37
  have e : (fnCells.extract 0 (0 + 37)).toList = fnCells.toList := by rfl
  rw [e] at hr
  have hld := run_loadVar_mid (P := Try.prog) W w.heap.size 0 127 fnCells.toList _ hr Try.underlying127 rfl (by kernel_rfl)
  refine bodyPost_ret (v := .agg fnCells) ?_ rfl ⟨rfl, HB.out⟩
  simp [results, Try.results73, Act.put, asAddr, hld]
end Go.Proofs.Ytbpgafchagpmoaa
