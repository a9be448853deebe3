/-
  THE WALKS OF lowest, choose, Union, Meet, Minus.
-/
import Derived.Test.YtnjgaibcpcpmcabKRises
import Derived.Deep.RegionLaw
namespace Go.Proofs.Ytnjgaibcpcpmcab
open Go.RowKit Go.Sort

theorem put2 {w : World} {b : Nat} {x0 y0 : Int} (h : w.heap[b]? = some (.cells #[.int .i64 x0, .int .i64 y0] 28 (0, 0))) (x y : Value) :
    ((w.setCell ⟨b, 0, none⟩ x).setCell ⟨b, 1, none⟩ y).cell? ⟨b, 0, none⟩ = some x ∧ ((w.setCell ⟨b, 0, none⟩ x).setCell ⟨b, 1, none⟩ y).cell? ⟨b, 1, none⟩ = some y := by
  have h1 := heap_setCell_same w b 0 _ _ x h
  have h2 := heap_setCell_same (w.setCell ⟨b, 0, none⟩ x) b 1 _ _ y h1
  constructor <;> simp [World.cell?, h2]
/-- the lowest of two lists that are not both empty, and which of them it stands in -/
def low : List K → List K → K × Bool × Bool
  | a :: _, [] => (a, true, false)
  | [], b :: _ => (b, false, true)
  | [], [] => ((0, 0), false, false)
  | a :: _, b :: _ => if a = b then (a, true, true) else if lt a b then (a, true, false) else (b, false, true)
def after (A : List K) (c : Bool) : List K := if c then A.tail else A
theorem choose_low (f : Bool → Bool → Bool) (n : Nat) (A B : List K) (h : A ≠ [] ∨ B ≠ []) :
    choose f (n + 1) A B = (if f (low A B).2.1 (low A B).2.2 then [(low A B).1] else []) ++ choose f n (after A (low A B).2.1) (after B (low A B).2.2) := by
  match A, B with
  | [], [] => simp at h
  | a :: A, [] => cases h : f true false <;> simp [choose, low, after, h]
  | [], b :: B => cases h : f false true <;> simp [choose, low, after, h]
  | a :: A, b :: B =>
    by_cases he : a = b
    · simp [choose, low, after, he]
    · by_cases hl : lt a b = true
      · simp [choose, low, after, he, hl]
      · simp [choose, low, after, he, hl]
theorem choose_nil (f : Bool → Bool → Bool) (n : Nat) : choose f n [] [] = [] := by cases n <;> rfl
theorem low_some (A B : List K) (h : A ≠ [] ∨ B ≠ []) : ((low A B).2.1 = true → A ≠ []) ∧ ((low A B).2.2 = true → B ≠ []) ∧ ((low A B).2.1 = true ∨ (low A B).2.2 = true) := by
  match A, B with
  | [], [] => simp at h
  | a :: A, [] => simp [low]
  | [], b :: B => simp [low]
  | a :: A, b :: B =>
    by_cases he : a = b
    · simp [low, he]
    · by_cases hl : lt a b = true
      · simp [low, he, hl]
      · simp [low, he, hl]
theorem KeysAt.head {w : World} {ao : Option Addr} {x : K} {L : List K} (h : KeysAt w ao (x :: L)) : ∃ b off, ao = some ⟨b, off, none⟩ ∧ w.cell? ⟨b, off, none⟩ = some (.int .i64 x.1) ∧ w.cell? ⟨b, off + 1, none⟩ = some (.int .i64 x.2) ∧ KeysAt w (some ⟨b, off + 2, none⟩) L := by
  rcases h with h | ⟨b, off, rfl, hc⟩
  · cases h
  · refine ⟨b, off, rfl, hc 0 _ (by simp [cks]), hc 1 _ (by simp [cks]), .inr ⟨b, off + 2, rfl, fun j u hu => ?_⟩⟩
    have := hc (j + 2) u (by simpa [cks] using hu)
    rw [show off + 2 + j = off + (j + 2) by omega]; exact this

theorem lowest_a (w : World) (ao bo : Option Addr) (n ca cb : Nat) (t r : Int) (A : List K) (h : KeysAt w ao ((t, r) :: A)) (hn : n = A.length + 1) :
    Calls Try.prog 67 #[.slice ao n ca, .slice bo 0 cb] w fun e w' => e = .returned (.tuple #[.agg #[.int .i64 t, .int .i64 r], .bool true, .bool false]) ∧ Below w.heap.size w w' := by
  obtain ⟨b, off, rfl, c1, c2, _⟩ := h.head
  have hn0 : 0 < n := by omega
  have hn1 : ((n : Int) == 0) = false := by simp; omega
  have e1 : (w.alloc (.cells #[.int .i64 0, .int .i64 0] 28)).cell? ⟨b, off, none⟩ = some (.int .i64 t) := ((Grew.refl w).alloc _).cell c1
  have e2 : (w.alloc (.cells #[.int .i64 0, .int .i64 0] 28)).cell? ⟨b, off + 1, none⟩ = some (.int .i64 r) := ((Grew.refl w).alloc _).cell c2
  have HB : Hid (Box (w.alloc (.cells #[.int .i64 t, .int .i64 r] 28)) w.heap.size t r) := Box.new rfl
  have HG : Hid (Below w.heap.size w (w.alloc (.cells #[.int .i64 t, .int .i64 r] 28))) := ((Grew.refl w).alloc _).below
  clear h hn
  go_enter Try.func67, Try.ntmps67
  go_wp2
  refine bodyPost_ret (v := .tuple #[.agg #[.int .i64 t, .int .i64 r], .bool true, .bool false]) (by obtain ⟨h1, h2⟩ := HB.out; generalize w.alloc (.cells #[.int .i64 t, .int .i64 r] 28) = W9 at *; simp [results, Try.results67, go_sem, h1, h2]) rfl ?_
  exact ⟨rfl, HG.out⟩

theorem lowest_b (w : World) (ao bo : Option Addr) (n ca cb : Nat) (t r : Int) (A : List K) (h : KeysAt w bo ((t, r) :: A)) (hn : n = A.length + 1) :
    Calls Try.prog 67 #[.slice ao 0 ca, .slice bo n cb] w fun e w' => e = .returned (.tuple #[.agg #[.int .i64 t, .int .i64 r], .bool false, .bool true]) ∧ Below w.heap.size w w' := by
  obtain ⟨b, off, rfl, c1, c2, _⟩ := h.head
  have hn0 : 0 < n := by omega
  have hn1 : ((n : Int) == 0) = false := by simp; omega
  have e1 : (w.alloc (.cells #[.int .i64 0, .int .i64 0] 28)).cell? ⟨b, off, none⟩ = some (.int .i64 t) := ((Grew.refl w).alloc _).cell c1
  have e2 : (w.alloc (.cells #[.int .i64 0, .int .i64 0] 28)).cell? ⟨b, off + 1, none⟩ = some (.int .i64 r) := ((Grew.refl w).alloc _).cell c2
  have HB : Hid (Box (w.alloc (.cells #[.int .i64 t, .int .i64 r] 28)) w.heap.size t r) := Box.new rfl
  have HG : Hid (Below w.heap.size w (w.alloc (.cells #[.int .i64 t, .int .i64 r] 28))) := ((Grew.refl w).alloc _).below
  clear h hn
  go_enter Try.func67, Try.ntmps67
  go_wp2
  refine bodyPost_ret (v := .tuple #[.agg #[.int .i64 t, .int .i64 r], .bool false, .bool true]) (by obtain ⟨h1, h2⟩ := HB.out; generalize w.alloc (.cells #[.int .i64 t, .int .i64 r] 28) = W9 at *; simp [results, Try.results67, go_sem, h1, h2]) rfl ?_
  exact ⟨rfl, HG.out⟩

set_option maxHeartbeats 2000000 in
set_option maxRecDepth 100000 in
theorem lowest_ab (w : World) (ao bo : Option Addr) (n m ca cb : Nat) (t r u s : Int) (A B : List K) (h : KeysAt w ao ((t, r) :: A)) (hn : n = A.length + 1) (h' : KeysAt w bo ((u, s) :: B)) (hm : m = B.length + 1) :
    Calls Try.prog 67 #[.slice ao n ca, .slice bo m cb] w fun e w' => e = .returned (.tuple #[.agg #[.int .i64 (low ((t, r) :: A) ((u, s) :: B)).1.1, .int .i64 (low ((t, r) :: A) ((u, s) :: B)).1.2], .bool (low ((t, r) :: A) ((u, s) :: B)).2.1, .bool (low ((t, r) :: A) ((u, s) :: B)).2.2]) ∧ Below w.heap.size w w' := by
  have mx := mixed
  obtain ⟨b, off, rfl, c1, c2, _⟩ := h.head
  obtain ⟨d, doff, rfl, c3, c4, _⟩ := h'.head
  have hn0 : 0 < n := by omega
  have hn1 : ((n : Int) == 0) = false := by simp; omega
  have hm0 : 0 < m := by omega
  have hm1 : ((m : Int) == 0) = false := by simp; omega
  have HLow : Hid (low ((t, r) :: A) ((u, s) :: B) = if (t, r) = (u, s) then ((t, r), true, true) else if lt (t, r) (u, s) then ((t, r), true, false) else ((u, s), false, true)) := rfl
  generalize low ((t, r) :: A) ((u, s) :: B) = lw at *
  have HG0 : Hid (Grew w (w.alloc (.cells #[.int .i64 0, .int .i64 0] 28))) := (Grew.refl w).alloc _
  have hh : (w.alloc (.cells #[.int .i64 0, .int .i64 0] 28)).heap[w.heap.size]? = some (.cells #[.int .i64 0, .int .i64 0] 28 (0, 0)) := heap_alloc_new _ _ rfl
  have HH : Hid (∀ n os, (grow ((w.alloc (.cells #[.int .i64 0, .int .i64 0] 28)).drewN n) os).heap[w.heap.size]? = some (.cells #[.int .i64 0, .int .i64 0] 28 (0, 0))) := fun n os => (Grew.heap ⟨n, os, rfl⟩ (Array.getElem?_eq_some_iff.1 hh).1).trans hh
  have HC : Hid (∀ n os, ((grow ((w.alloc (.cells #[.int .i64 0, .int .i64 0] 28)).drewN n) os).cell? ⟨b, off, none⟩ = some (.int .i64 t) ∧ (grow ((w.alloc (.cells #[.int .i64 0, .int .i64 0] 28)).drewN n) os).cell? ⟨b, off + 1, none⟩ = some (.int .i64 r)) ∧ ((grow ((w.alloc (.cells #[.int .i64 0, .int .i64 0] 28)).drewN n) os).cell? ⟨d, doff, none⟩ = some (.int .i64 u) ∧ (grow ((w.alloc (.cells #[.int .i64 0, .int .i64 0] 28)).drewN n) os).cell? ⟨d, doff + 1, none⟩ = some (.int .i64 s))) :=
    fun n os => ⟨⟨Grew.cell ⟨n, os, rfl⟩ (HG0.out.cell c1), Grew.cell ⟨n, os, rfl⟩ (HG0.out.cell c2)⟩, ⟨Grew.cell ⟨n, os, rfl⟩ (HG0.out.cell c3), Grew.cell ⟨n, os, rfl⟩ (HG0.out.cell c4)⟩⟩
  clear hh h h' hn hm c1 c2 c3 c4
  go_enter Try.func67, Try.ntmps67
  go_wp2_with fail
  generalize (w.alloc (.cells #[.int .i64 0, .int .i64 0] 28)) = W at *
  have k1 : ∀ n os, (grow (W.drewN n) os).cell? ⟨b, off, none⟩ = some (.int .i64 t) := fun n os => (HC.out n os).1.1
  have k2 : ∀ n os, (grow (W.drewN n) os).cell? ⟨b, off + 1, none⟩ = some (.int .i64 r) := fun n os => (HC.out n os).1.2
  have k3 : ∀ n os, (grow (W.drewN n) os).cell? ⟨d, doff, none⟩ = some (.int .i64 u) := fun n os => (HC.out n os).2.1
  have k4 : ∀ n os, (grow (W.drewN n) os).cell? ⟨d, doff + 1, none⟩ = some (.int .i64 s) := fun n os => (HC.out n os).2.2
  have hq := run_eqKey t r u s
  have hgd := fun op x y => run_eqGuard op x y t r u s
  by_cases he : (t, r) = (u, s)
  · have HL : Hid (lw = ((t, r), true, true)) := by rw [Hid, HLow.out, if_pos he]
    rw [show decide ((t, r) = (u, s)) = true by simpa using he] at hq
    clear he HLow
    refine wp_region_quiet_grown mx (by kernel_rfl) ?_
    repeat (go_big_quiet_step (fail))
    refine wpQuiet_nil ?_
    intro _ hw'
    obtain ⟨⟨nq, osq⟩, hw''⟩ := hw'
    subst hw''
    have e1 := k1 nq osq
    have e2 := k2 nq osq
    have z0 : (grow (W.drewN nq) osq).cell? ⟨w.heap.size, 0, none⟩ = some (.int .i64 0) := by simp [World.cell?, HH.out]
    have z1 : (grow (W.drewN nq) osq).cell? ⟨w.heap.size, 1, none⟩ = some (.int .i64 0) := by simp [World.cell?, HH.out]
    have z2 : (grow (W.drewN nq) osq).frozen? ⟨w.heap.size, 0, none⟩ = false := frozen_of_row _ _ _ _ _ (HH.out _ _)
    have z3 : (grow (W.drewN nq) osq).frozen? ⟨w.heap.size, 1, none⟩ = false := frozen_of_row _ _ _ _ _ (HH.out _ _)
    have HG : Hid (Below w.heap.size w (grow (W.drewN nq) osq)) := (HG0.out.trans ⟨_, _, rfl⟩).below
    have HHq : Hid ((grow (W.drewN nq) osq).heap[w.heap.size]? = some (.cells #[.int .i64 0, .int .i64 0] 28 (0, 0))) := HH.out nq osq
    clear k1 k2 k3 k4 hq hgd HC HH
    generalize grow (W.drewN nq) osq = W1 at *
    go_wp2
    refine bodyPost_ret (v := .tuple #[.agg #[.int .i64 t, .int .i64 r], .bool true, .bool true]) (by have h := put2 (HHq.out) (.int .i64 t) (.int .i64 r); generalize (W1.setCell ⟨w.heap.size, 0, none⟩ (.int .i64 t)).setCell ⟨w.heap.size, 1, none⟩ (.int .i64 r) = W9 at *; obtain ⟨h1, h2⟩ := h; simp [results, Try.results67, go_sem, h1, h2]) rfl ?_
    exact ⟨by rw [HL.out], (HG.out.setCell (Nat.le_refl _) _).setCell (Nat.le_refl _) _⟩
  · rw [show decide ((t, r) = (u, s)) = false by simpa using he] at hq
    refine wp_region_quiet_grown mx (by kernel_rfl) ?_
    repeat (go_big_quiet_step (fail))
    refine wpQuiet_nil ?_
    intro _ hw'
    obtain ⟨⟨nq, osq⟩, hw''⟩ := hw'
    subst hw''
    have HG1 : Hid (Grew W (grow (W.drewN nq) osq)) := ⟨_, _, rfl⟩
    have HHq : Hid ((grow (W.drewN nq) osq).heap[w.heap.size]? = some (.cells #[.int .i64 0, .int .i64 0] 28 (0, 0))) := HH.out nq osq
    have HCq : Hid _ := HC.out nq osq
    clear k1 k2 k3 k4 hq hgd HC HH
    generalize grow (W.drewN nq) osq = W1 at *
    have k1 : ∀ n os, (grow (W1.drewN n) os).cell? ⟨b, off, none⟩ = some (.int .i64 t) := fun n os => Grew.cell ⟨n, os, rfl⟩ HCq.out.1.1
    have k2 : ∀ n os, (grow (W1.drewN n) os).cell? ⟨b, off + 1, none⟩ = some (.int .i64 r) := fun n os => Grew.cell ⟨n, os, rfl⟩ HCq.out.1.2
    have k3 : ∀ n os, (grow (W1.drewN n) os).cell? ⟨d, doff, none⟩ = some (.int .i64 u) := fun n os => Grew.cell ⟨n, os, rfl⟩ HCq.out.2.1
    have k4 : ∀ n os, (grow (W1.drewN n) os).cell? ⟨d, doff + 1, none⟩ = some (.int .i64 s) := fun n os => Grew.cell ⟨n, os, rfl⟩ HCq.out.2.2
    have HH2 : Hid (∀ n os, (grow (W1.drewN n) os).heap[w.heap.size]? = some (.cells #[.int .i64 0, .int .i64 0] 28 (0, 0))) := fun n os => (Grew.heap ⟨n, os, rfl⟩ (Array.getElem?_eq_some_iff.1 HHq.out).1).trans HHq.out
    cases hl : lt (t, r) (u, s) with
    | true =>
      have HL : Hid (lw = ((t, r), true, false)) := by rw [Hid, HLow.out, if_neg he, hl]; rfl
      obtain ⟨cv, hcv, hcp⟩ : ∃ c : Int, cmp (t, r) (u, s) = c ∧ c < 0 := ⟨_, rfl, by have := cmp_neg (t, r) (u, s); rw [hl] at this; simp at this; exact this⟩
      have hcd : decide (cv < 0) = true := by simpa using hcp
      have HCm : Hid (∀ w, Calls Try.prog 20 #[.agg #[.int .i64 t, .int .i64 r], .agg #[.int .i64 u, .int .i64 s]] w fun e w' => e = .returned (.int .i64 cv) ∧ ∃ q os, w' = grow (w.drewN q) os) := fun w => by
        have h := compare_any w t r u s
        rwa [hcv] at h
      clear he HLow hl hcv HHq
      go_wp2_with fail
      refine wp_region_quiet_grown mx (by kernel_rfl) ?_
      repeat (go_big_quiet_step ((go_at_call 20; exact Calls.grown_of (HCm.out _))))
      refine wpQuiet_nil ?_
      intro _ hw'
      obtain ⟨⟨nq2, osq2⟩, hw''⟩ := hw'
      subst hw''
      have e1 := k1 nq2 osq2
      have e2 := k2 nq2 osq2
      have z0 : (grow (W1.drewN nq2) osq2).cell? ⟨w.heap.size, 0, none⟩ = some (.int .i64 0) := by simp [World.cell?, HH2.out]
      have z1 : (grow (W1.drewN nq2) osq2).cell? ⟨w.heap.size, 1, none⟩ = some (.int .i64 0) := by simp [World.cell?, HH2.out]
      have z2 : (grow (W1.drewN nq2) osq2).frozen? ⟨w.heap.size, 0, none⟩ = false := frozen_of_row _ _ _ _ _ (HH2.out _ _)
      have z3 : (grow (W1.drewN nq2) osq2).frozen? ⟨w.heap.size, 1, none⟩ = false := frozen_of_row _ _ _ _ _ (HH2.out _ _)
      have HG : Hid (Below w.heap.size w (grow (W1.drewN nq2) osq2)) := ((HG0.out.trans HG1.out).trans ⟨_, _, rfl⟩).below
      have HHq : Hid ((grow (W1.drewN nq2) osq2).heap[w.heap.size]? = some (.cells #[.int .i64 0, .int .i64 0] 28 (0, 0))) := HH2.out nq2 osq2
      clear k1 k2 k3 k4 HCq HH2 HCm
      generalize grow (W1.drewN nq2) osq2 = W2 at *
      go_wp2
      refine bodyPost_ret (v := .tuple #[.agg #[.int .i64 t, .int .i64 r], .bool true, .bool false]) (by have h := put2 (HHq.out) (.int .i64 t) (.int .i64 r); generalize (W2.setCell ⟨w.heap.size, 0, none⟩ (.int .i64 t)).setCell ⟨w.heap.size, 1, none⟩ (.int .i64 r) = W9 at *; obtain ⟨h1, h2⟩ := h; simp [results, Try.results67, go_sem, h1, h2]) rfl ?_
      exact ⟨by rw [HL.out], (HG.out.setCell (Nat.le_refl _) _).setCell (Nat.le_refl _) _⟩
    | false =>
      have HL : Hid (lw = ((u, s), false, true)) := by rw [Hid, HLow.out, if_neg he, hl]; rfl
      obtain ⟨cv, hcv, hcp⟩ : ∃ c : Int, cmp (t, r) (u, s) = c ∧ 0 ≤ c := ⟨_, rfl, by have := cmp_neg (t, r) (u, s); rw [hl] at this; simp at this; exact this⟩
      have hcd : decide (cv < 0) = false := by simpa using hcp
      have HCm : Hid (∀ w, Calls Try.prog 20 #[.agg #[.int .i64 t, .int .i64 r], .agg #[.int .i64 u, .int .i64 s]] w fun e w' => e = .returned (.int .i64 cv) ∧ ∃ q os, w' = grow (w.drewN q) os) := fun w => by
        have h := compare_any w t r u s
        rwa [hcv] at h
      clear he HLow hl hcv HHq
      go_wp2_with fail
      refine wp_region_quiet_grown mx (by kernel_rfl) ?_
      repeat (go_big_quiet_step ((go_at_call 20; exact Calls.grown_of (HCm.out _))))
      refine wpQuiet_nil ?_
      intro _ hw'
      obtain ⟨⟨nq2, osq2⟩, hw''⟩ := hw'
      subst hw''
      have e1 := k3 nq2 osq2
      have e2 := k4 nq2 osq2
      have z0 : (grow (W1.drewN nq2) osq2).cell? ⟨w.heap.size, 0, none⟩ = some (.int .i64 0) := by simp [World.cell?, HH2.out]
      have z1 : (grow (W1.drewN nq2) osq2).cell? ⟨w.heap.size, 1, none⟩ = some (.int .i64 0) := by simp [World.cell?, HH2.out]
      have z2 : (grow (W1.drewN nq2) osq2).frozen? ⟨w.heap.size, 0, none⟩ = false := frozen_of_row _ _ _ _ _ (HH2.out _ _)
      have z3 : (grow (W1.drewN nq2) osq2).frozen? ⟨w.heap.size, 1, none⟩ = false := frozen_of_row _ _ _ _ _ (HH2.out _ _)
      have HG : Hid (Below w.heap.size w (grow (W1.drewN nq2) osq2)) := ((HG0.out.trans HG1.out).trans ⟨_, _, rfl⟩).below
      have HHq : Hid ((grow (W1.drewN nq2) osq2).heap[w.heap.size]? = some (.cells #[.int .i64 0, .int .i64 0] 28 (0, 0))) := HH2.out nq2 osq2
      clear k1 k2 k3 k4 HCq HH2 HCm
      generalize grow (W1.drewN nq2) osq2 = W2 at *
      go_wp2
      refine bodyPost_ret (v := .tuple #[.agg #[.int .i64 u, .int .i64 s], .bool false, .bool true]) (by have h := put2 (HHq.out) (.int .i64 u) (.int .i64 s); generalize (W2.setCell ⟨w.heap.size, 0, none⟩ (.int .i64 u)).setCell ⟨w.heap.size, 1, none⟩ (.int .i64 s) = W9 at *; obtain ⟨h1, h2⟩ := h; simp [results, Try.results67, go_sem, h1, h2]) rfl ?_
      exact ⟨by rw [HL.out], (HG.out.setCell (Nat.le_refl _) _).setCell (Nat.le_refl _) _⟩

theorem lowest_any (w : World) (ao bo : Option Addr) (n m ca cb : Nat) (A B : List K) (h : KeysAt w ao A) (hn : n = A.length) (h' : KeysAt w bo B) (hm : m = B.length) (hne : A ≠ [] ∨ B ≠ []) :
    Calls Try.prog 67 #[.slice ao n ca, .slice bo m cb] w fun e w' => e = .returned (.tuple #[.agg #[.int .i64 (low A B).1.1, .int .i64 (low A B).1.2], .bool (low A B).2.1, .bool (low A B).2.2]) ∧ Below w.heap.size w w' := by
  match A, B with
  | [], [] => simp at hne
  | (t, r) :: A, [] => subst hm; exact lowest_a w ao bo n ca cb t r A h hn
  | [], (t, r) :: B => subst hn; exact lowest_b w ao bo m ca cb t r B h' hm
  | (t, r) :: A, (u, s) :: B => exact lowest_ab w ao bo n m ca cb t r u s A B h hn h' hm

end Go.Proofs.Ytnjgaibcpcpmcab
