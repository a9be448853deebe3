/-
  at, numberAhead, visible, before.
-/
import Derived.Test.YtfkijdlggdgfhaaSLine
namespace Go.Proofs.Ytfkijdlggdgfhaa
open Go.RowKit Go.Sort

theorem split_at {l : List Vr} {i : Nat} (hi : i < l.length) : l = l.take i ++ l[i]! :: l.drop (i + 1) := by
  rw [getElem!_pos l i hi, ← List.drop_eq_getElem_cons hi, List.take_append_drop]
/-- the place of a version in its chain -/
theorem Line.below_at {w : World} {c g off cc : Nat} {A C : List Vr} {v : Vr} (h : Line w c g off cc (A ++ v :: C)) : (∀ x ∈ A, x.n < v.n) ∧ (∀ x ∈ C, v.n < x.n) := by
  have hp := List.pairwise_append.1 h.nn
  exact ⟨fun x hx => hp.2.2 x hx v (by simp), fun x hx => (List.pairwise_cons.1 hp.2.1).1 x hx⟩
set_option maxRecDepth 100000 in
set_option maxHeartbeats 1000000 in
theorem at_any (w : World) (c g off cc : Nat) (A C : List Vr) (v : Vr) (h : Line w c g off cc (A ++ v :: C)) :
    Calls Try.prog 62 #[ptr c, ptr v.b] w fun e w' => e = .returned (.int .i64 (A.length : Int)) ∧ Below w.heap.size w w' := by
  have hlt := h.below_at
  have hmf : ∀ (fn : Fn) (first cap : Array Value) (w : World), (Instr.makeFunc fn first cap).run Try.prog w = .ok (.func fn first cap) w := fun _ _ _ _ => rfl
  have hc0 := h.chc
  have hcl := blk_lt h.ch
  obtain ⟨W, hW⟩ : ∃ W, W = (w.alloc (.cells #[ptr c] 74)).alloc (.cells #[ptr v.b] 83) := ⟨_, rfl⟩
  have HB : Hid (Below w.heap.size w W) := by
    show Below _ _ _
    rw [hW]
    exact ((Below.refl _ _).alloc (Nat.le_refl _) _).alloc (by simp) _
  have k1 : W.cell? ⟨w.heap.size, 0, none⟩ = some (ptr c) := by
    rw [World.cell?, hW, heap_alloc_old _ _ (by simp), heap_alloc_new _ _ rfl]; rfl
  have k2 : W.cell? ⟨w.heap.size + 1, 0, none⟩ = some (ptr v.b) := by
    rw [World.cell?, hW, heap_alloc_new _ _ (by simp)]; rfl
  have HL : Hid (Line W c g off cc (A ++ v :: C)) := h.kept HB.out
  have hcW := HL.out.chc
  have HS : Hid (Calls Try.prog 53 #[.int .i64 ((A ++ v :: C).length : Int), .func (.func 69) #[] #[ptr w.heap.size, ptr (w.heap.size + 1)]] W fun e w' => e = .returned (.int .i64 (A.length : Int)) ∧ Below w.heap.size w w') := by
    have hs := Any.sort_Search laysSearch 69 #[ptr w.heap.size, ptr (w.heap.size + 1)] (A ++ v :: C).length (fun i => decide (v.n ≤ (A ++ v :: C)[i]!.n)) W (enters_of Try.func69 (by kernel_rfl) rfl) (by have := HL.out.sz; omega)
      (fun m os i hi => by
        have hg : Below W.heap.size W (grow (W.drewN m) os) := below_grown_sl _ W m os (Nat.le_refl _)
        have hvb : (grow (W.drewN m) os).cell? ⟨v.b, 2, none⟩ = some (.int .i64 v.n) := by
          rw [World.cell?, (HL.out.kept hg).vb v (by simp)]; rfl
        refine (at1_any _ w.heap.size (w.heap.size + 1) c g off cc v.b (A ++ v :: C) v.n i (HL.out.kept hg) hi ((hg.cell (p := ⟨w.heap.size, 0, none⟩) (by rw [hW]; simp; omega)).trans k1) ((hg.cell (p := ⟨w.heap.size + 1, 0, none⟩) (by rw [hW]; simp)).trans k2) hvb).mono ?_
        rintro e w' ⟨rfl, q, rfl⟩
        exact ⟨rfl, q, #[], by rw [grow_empty]⟩)
      (fun a b hab hb ha => by
        have ha' := of_decide_eq_true ha
        refine decide_eq_true ?_
        by_cases e : a = b
        · rw [← e]; exact ha'
        · have hp := List.pairwise_iff_getElem.1 HL.out.nn a b (by omega) hb (by omega)
          rw [getElem!_pos _ a (by omega)] at ha'
          rw [getElem!_pos _ b hb]
          omega)
    have hc : (List.range (A ++ v :: C).length).countP (fun i => !(fun i : Nat => decide (v.n ≤ (A ++ v :: C)[i]!.n)) i) = A.length := by
      refine count_split (f := fun x => !decide (v.n ≤ x.n)) (fun x hx => ?_) (fun x hx => ?_)
      · have := hlt.1 x hx; simp; omega
      · rcases List.mem_cons.1 hx with rfl | hx
        · simp
        · have := hlt.2 x hx; simp; omega
    rw [hc] at hs
    refine Calls.mono hs ?_
    rintro e w' ⟨rfl, q, os, rfl⟩
    exact ⟨rfl, HB.out.trans ((below_grown_sl _ W q os (Nat.le_refl _)).mono HB.out.size)⟩
  clear hlt h
  generalize (A ++ v :: C).length = m at *
  go_enter Try.func62, Try.ntmps62
  go_wp2_with fail
  rw [← hW]
  refine HS.out.mono ?_
  rintro e w2 ⟨rfl, hb2⟩
  have HB2 : Hid (Below w.heap.size w w2) := hb2
  clear hb2 HS HL HB hW k1 k2 hc0 hcW
  go_wp2
  go_ret
  exact ⟨rfl, HB2.out⟩
/-- the number of the version ahead of a place -/
def aheadN (ys : List Vr) (i : Nat) : Int := if i = 0 then 0 else ys[i - 1]!.n
set_option maxRecDepth 100000 in
set_option maxHeartbeats 1000000 in
theorem numberAhead_any (w : World) (c g off cc : Nat) (ys : List Vr) (i : Nat) (h : Line w c g off cc ys) (hi : i ≤ ys.length) :
    Calls Try.prog 55 #[ptr c, .int .i64 (i : Int)] w fun e w' => e = .returned (.int .i64 (aheadN ys i)) ∧ w' = w := by
  have hsz := h.sz
  rcases Nat.eq_zero_or_pos i with rfl | hp
  · clear h hsz hi
    go_enter Try.func55, Try.ntmps55
    go_wp2
    go_ret
    exact ⟨rfl, rfl⟩
  · obtain ⟨j, rfl⟩ : ∃ j, i = j + 1 := ⟨i - 1, by omega⟩
    have c0 := h.chc
    have c1 := h.rwc (i := j) (by omega)
    obtain ⟨_, c2⟩ := h.vbc (i := j) (by omega)
    have ea : aheadN ys (j + 1) = ys[j]!.n := by simp [aheadN]
    rw [ea]
    clear h ea
    generalize ys[j]! = y at *
    generalize ys.length = m at *
    have hne : ¬ ((j + 1 : Nat) : Int) = 0 := by omega
    have hs1 : ((j + 1 : Nat) : Int) - 1 = (j : Int) := by omega
    have hw1 : wrap64 (j : Int) = (j : Int) := by unfold wrap64; omega
    have hjm : (j : Int) < (m : Int) := by omega
    have hj2 : j < m := by omega
    generalize hz : ((j + 1 : Nat) : Int) = z at *
    clear hz hi hsz
    go_enter Try.func55, Try.ntmps55
    go_wp2
    all_goals (go_ret; exact ⟨rfl, rfl⟩)
end Go.Proofs.Ytfkijdlggdgfhaa
