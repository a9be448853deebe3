/-
  VmArith: WHAT COMES OF THE PROGRAM; reckoned.
-/
import Derived.Test.YtbpgafchagpmoaaXAwake
namespace Go.Proofs.Ytbpgafchagpmoaa
open Go.RowKit Go.Sort

def arL (op x y : Int) : List K := [(1, x), (1, y), (op, 0), (35, 0)]
def arP : Nums := ⟨0, 0, 0, 0⟩
def isPair (op : Int) : Prop := (10 ≤ op ∧ op ≤ 19) ∨ (22 ≤ op ∧ op ≤ 29)
theorem pair_cases {op : Int} (h : isPair op) : op = 10 ∨ op = 11 ∨ op = 12 ∨ op = 13 ∨ op = 14 ∨ op = 15 ∨ op = 16 ∨ op = 17 ∨ op = 18 ∨ op = 19 ∨ op = 22 ∨ op = 23 ∨ op = 24 ∨ op = 25 ∨ op = 26 ∨ op = 27 ∨ op = 28 ∨ op = 29 := by
  unfold isPair at h; omega
theorem ar_new {op : Int} (h : isPair op) (x y : Int) : newE arP (arL op x y) [] [] = 0 := by
  rcases pair_cases h with rfl | rfl | rfl | rfl | rfl | rfl | rfl | rfl | rfl | rfl | rfl | rfl | rfl | rfl | rfl | rfl | rfl | rfl <;> rfl
theorem do_pairM {op : Int} (hp : isPair op) (A : List Int) (R : List C) (a : Int) (m : M) : doN A R op a m = pairM op m := by
  unfold isPair at hp
  unfold doN
  rw [if_neg (by omega), if_neg (by omega), if_neg (by omega), if_neg (by omega), if_neg (by omega), if_neg (by omega), if_neg (by omega), if_neg (by omega), if_neg (by omega), if_neg (by omega), if_neg (by omega), if_neg (by omega), if_neg (by omega), if_neg (by omega), if_neg (by omega), if_neg (by omega)]
def arM2 (x y : Int) : M := ⟨2, [y, x], [], [], [], false, 0, 0, 2⟩
theorem ar_two (op x y : Int) : runN (arL op x y) [] [] (startM arP) 2 = arM2 x y := rfl
theorem ar_three {op : Int} (h : isPair op) (x y : Int) : runN (arL op x y) [] [] (startM arP) 3 = if (pairN op x y).2 = 0 then ⟨3, [(pairN op x y).1], [], [], [], false, 0, 0, 3⟩ else ⟨2, [], [], [], [], true, (pairN op x y).2, 0, 3⟩ := by
  show stepN _ _ _ (runN (arL op x y) [] [] (startM arP) 2) = _
  rw [ar_two]
  unfold isPair at h
  unfold stepN
  rw [if_neg (by rw [show doneB (arL op x y).length (arM2 x y) = false from rfl]; simp)]
  have hc : cd (arL op x y) (arM2 x y).at_ = (op, 0) := rfl
  rw [hc, if_neg (by show ¬ op = 0; omega), if_neg (by show ¬ op = 30; omega), if_neg (by show ¬ op = 31; omega)]
  have hd : doN [] [] op 0 (tick (arM2 x y)) = if (pairN op x y).2 = 0 then (⟨2, [(pairN op x y).1], [], [], [], false, 0, 0, 3⟩, 0) else (⟨2, [], [], [], [], false, 0, 0, 3⟩, (pairN op x y).2) := do_pairM h [] [] 0 _
  simp only
  rw [hd]
  by_cases h0 : (pairN op x y).2 = 0
  · rw [if_pos h0, if_pos h0]; rfl
  · rw [if_neg h0, if_neg h0, if_neg h0]; rfl
theorem ar_run {op : Int} (h : isPair op) (x y : Int) : runX arP (arL op x y) [] [] = if (pairN op x y).2 = 0 then ⟨true, 0, 0, [(pairN op x y).1], [], 4⟩ else ⟨false, (pairN op x y).2, 0, [], [], 3⟩ := by
  unfold runX
  rw [if_neg (by simp [ar_new h x y])]
  have h4 : lastM (arL op x y) [] [] (startM arP) = stepN (arL op x y) [] [] (runN (arL op x y) [] [] (startM arP) 3) := rfl
  rw [h4, ar_three h]
  by_cases h0 : (pairN op x y).2 = 0
  · rw [if_pos h0, if_pos h0]; rfl
  · rw [if_neg h0, if_neg h0]
    have e : stepN (arL op x y) [] [] ⟨2, [], [], [], [], true, (pairN op x y).2, 0, 3⟩ = ⟨2, [], [], [], [], true, (pairN op x y).2, 0, 3⟩ := rfl
    rw [e]
    show (⟨(pairN op x y).2 == 0, (pairN op x y).2, 0, [], [], 3⟩ : Ef) = _
    rw [show ((pairN op x y).2 == 0) = false by simpa using h0]

/-- reckoned -/
abbrev RkOK (op : Int) : Prop := ∀ (w : World) (x y : Int), (pairN op x y).2 = 0 → Calls Try.prog 25 #[.int .i64 op, .int .i64 x, .int .i64 y] w fun e w' => e = .returned (.int .i64 (pairN op x y).1) ∧ w' = w
theorem rk10 : RkOK 10 := by
  intro w x y h0
  clear h0
  go_enter Try.func25, Try.ntmps25
  go_wp2
  go_ret
  exact ⟨rfl, rfl⟩
theorem rk11 : RkOK 11 := by
  intro w x y h0
  clear h0
  go_enter Try.func25, Try.ntmps25
  go_wp2
  go_ret
  exact ⟨rfl, rfl⟩
theorem rk12 : RkOK 12 := by
  intro w x y h0
  clear h0
  go_enter Try.func25, Try.ntmps25
  go_wp2
  go_ret
  exact ⟨rfl, rfl⟩
theorem rk13 : RkOK 13 := by
  intro w x y h0
  by_cases hy : y = 0
  · subst hy; rw [show (pairN 13 x 0).2 = 201 from rfl] at h0; cases h0
  · have hy' : (y == 0) = false := by simpa using hy
    have HE : Hid (pairN 13 x y = (wrap64 (x.tdiv y), 0)) := by show pairN 13 x y = _; simp [pairN, hy]
    clear h0
    go_enter Try.func25, Try.ntmps25
    go_wp2
    go_ret
    exact ⟨by rw [HE.out]; rfl, rfl⟩
theorem rk14 : RkOK 14 := by
  intro w x y h0
  by_cases hy : y = 0
  · subst hy; rw [show (pairN 14 x 0).2 = 201 from rfl] at h0; cases h0
  · have hy' : (y == 0) = false := by simpa using hy
    have HE : Hid (pairN 14 x y = (x.tmod y, 0)) := by show pairN 14 x y = _; simp [pairN, hy]
    clear h0
    go_enter Try.func25, Try.ntmps25
    go_wp2
    go_ret
    exact ⟨by rw [HE.out]; rfl, rfl⟩
theorem rk15 : RkOK 15 := by
  intro w x y h0
  clear h0
  go_enter Try.func25, Try.ntmps25
  go_wp2
  go_ret
  exact ⟨rfl, rfl⟩
theorem rk16 : RkOK 16 := by
  intro w x y h0
  clear h0
  go_enter Try.func25, Try.ntmps25
  go_wp2
  go_ret
  exact ⟨rfl, rfl⟩
theorem rk17 : RkOK 17 := by
  intro w x y h0
  clear h0
  go_enter Try.func25, Try.ntmps25
  go_wp2
  go_ret
  exact ⟨rfl, rfl⟩
theorem rk18 : RkOK 18 := by
  intro w x y h0
  by_cases hy : y < 0
  · have : (pairN 18 x y).2 = 202 := by simp [pairN, hy]
    rw [this] at h0; cases h0
  · have HE : Hid (pairN 18 x y = (wrap64 (x * 2 ^ min (IntKind.u64.wrap y).toNat 64), 0)) := by show pairN 18 x y = _; simp [pairN, hy]
    clear h0
    go_enter Try.func25, Try.ntmps25
    go_wp2
    go_ret
    exact ⟨by rw [HE.out]; rfl, rfl⟩
theorem rk19 : RkOK 19 := by
  intro w x y h0
  by_cases hy : y < 0
  · have : (pairN 19 x y).2 = 202 := by simp [pairN, hy]
    rw [this] at h0; cases h0
  · have HE : Hid (pairN 19 x y = (x / 2 ^ min (IntKind.u64.wrap y).toNat 64, 0)) := by show pairN 19 x y = _; simp [pairN, hy]
    clear h0
    go_enter Try.func25, Try.ntmps25
    go_wp2
    go_ret
    exact ⟨by rw [HE.out]; rfl, rfl⟩
theorem rk22 : RkOK 22 := by
  intro w x y h0
  clear h0
  cases hb : (x == y) with
  | true =>
    have HE : Hid (pairN 22 x y = (1, 0)) := by show pairN 22 x y = _; rw [show pairN 22 x y = (trN (x == y), 0) from rfl, hb]; rfl
    go_enter Try.func25, Try.ntmps25
    go_wp2
    go_ret
    exact ⟨by rw [HE.out]; rfl, rfl⟩
  | false =>
    have HE : Hid (pairN 22 x y = (0, 0)) := by show pairN 22 x y = _; rw [show pairN 22 x y = (trN (x == y), 0) from rfl, hb]; rfl
    go_enter Try.func25, Try.ntmps25
    go_wp2
    go_ret
    exact ⟨by rw [HE.out]; rfl, rfl⟩
theorem rk23 : RkOK 23 := by
  intro w x y h0
  clear h0
  cases hb : (x != y) with
  | true =>
    have HE : Hid (pairN 23 x y = (1, 0)) := by show pairN 23 x y = _; rw [show pairN 23 x y = (trN (x != y), 0) from rfl, hb]; rfl
    go_enter Try.func25, Try.ntmps25
    go_wp2
    go_ret
    exact ⟨by rw [HE.out]; rfl, rfl⟩
  | false =>
    have HE : Hid (pairN 23 x y = (0, 0)) := by show pairN 23 x y = _; rw [show pairN 23 x y = (trN (x != y), 0) from rfl, hb]; rfl
    go_enter Try.func25, Try.ntmps25
    go_wp2
    go_ret
    exact ⟨by rw [HE.out]; rfl, rfl⟩
theorem rk24 : RkOK 24 := by
  intro w x y h0
  clear h0
  by_cases hb : (x < y)
  · have HE : Hid (pairN 24 x y = (1, 0)) := by show pairN 24 x y = _; simp [pairN, trN, hb]
    go_enter Try.func25, Try.ntmps25
    go_wp2
    go_ret
    exact ⟨by rw [HE.out]; rfl, rfl⟩
  · have HE : Hid (pairN 24 x y = (0, 0)) := by show pairN 24 x y = _; simp [pairN, trN, hb]
    go_enter Try.func25, Try.ntmps25
    go_wp2
    go_ret
    exact ⟨by rw [HE.out]; rfl, rfl⟩
theorem rk25 : RkOK 25 := by
  intro w x y h0
  clear h0
  by_cases hb : (x ≤ y)
  · have HE : Hid (pairN 25 x y = (1, 0)) := by show pairN 25 x y = _; simp [pairN, trN, hb]
    go_enter Try.func25, Try.ntmps25
    go_wp2
    go_ret
    exact ⟨by rw [HE.out]; rfl, rfl⟩
  · have HE : Hid (pairN 25 x y = (0, 0)) := by show pairN 25 x y = _; simp [pairN, trN, hb]
    go_enter Try.func25, Try.ntmps25
    go_wp2
    go_ret
    exact ⟨by rw [HE.out]; rfl, rfl⟩
theorem rk26 : RkOK 26 := by
  intro w x y h0
  clear h0
  by_cases hb : (y < x)
  · have HE : Hid (pairN 26 x y = (1, 0)) := by show pairN 26 x y = _; simp [pairN, trN, hb]
    go_enter Try.func25, Try.ntmps25
    go_wp2
    go_ret
    exact ⟨by rw [HE.out]; rfl, rfl⟩
  · have HE : Hid (pairN 26 x y = (0, 0)) := by show pairN 26 x y = _; simp [pairN, trN, hb]
    go_enter Try.func25, Try.ntmps25
    go_wp2
    go_ret
    exact ⟨by rw [HE.out]; rfl, rfl⟩
theorem rk27 : RkOK 27 := by
  intro w x y h0
  clear h0
  by_cases hb : (y ≤ x)
  · have HE : Hid (pairN 27 x y = (1, 0)) := by show pairN 27 x y = _; simp [pairN, trN, hb]
    go_enter Try.func25, Try.ntmps25
    go_wp2
    go_ret
    exact ⟨by rw [HE.out]; rfl, rfl⟩
  · have HE : Hid (pairN 27 x y = (0, 0)) := by show pairN 27 x y = _; simp [pairN, trN, hb]
    go_enter Try.func25, Try.ntmps25
    go_wp2
    go_ret
    exact ⟨by rw [HE.out]; rfl, rfl⟩
theorem rk28 : RkOK 28 := by
  intro w x y h0
  clear h0
  go_enter Try.func25, Try.ntmps25
  go_wp2
  go_ret
  exact ⟨rfl, rfl⟩
theorem rk29 : RkOK 29 := by
  intro w x y h0
  clear h0
  go_enter Try.func25, Try.ntmps25
  go_wp2
  go_ret
  exact ⟨rfl, rfl⟩
theorem reckoned_any (op : Int) (hp : isPair op) : RkOK op := by
  rcases pair_cases hp with rfl | rfl | rfl | rfl | rfl | rfl | rfl | rfl | rfl | rfl | rfl | rfl | rfl | rfl | rfl | rfl | rfl | rfl
  · exact rk10
  · exact rk11
  · exact rk12
  · exact rk13
  · exact rk14
  · exact rk15
  · exact rk16
  · exact rk17
  · exact rk18
  · exact rk19
  · exact rk22
  · exact rk23
  · exact rk24
  · exact rk25
  · exact rk26
  · exact rk27
  · exact rk28
  · exact rk29
end Go.Proofs.Ytbpgafchagpmoaa
