import Derived.Test.YtkjmeknaedapjaaDoorK08
/-
  slices.Backward: THE ITERATOR FROM THE BACK.
-/
namespace Go.Proofs.YtkjmeknaedapjaaDoor
open Go.RowKit Go.Sort Go.Shelf

attribute [local go_sem] Oper.semAt_some

/-- a place within m -/
def cl (m i : Nat) : Nat := min i (m - 1)
theorem cl_lt {m i : Nat} (h : 0 < m) : cl m i < m := by unfold cl; omega
theorem cl_of {m i : Nat} (h : i < m) : cl m i = i := by unfold cl; omega
/-- the last k places, from the back -/
def dn (m k : Nat) : List Nat := (List.range k).map (fun j => m - 1 - j)
theorem dn_succ (m k : Nat) : dn m (k + 1) = dn m k ++ [m - 1 - k] := by simp [dn, List.range_succ]
theorem dn_length (m k : Nat) : (dn m k).length = k := by simp [dn]
/-- what is handed on at a place -/
abbrev encP (m : Nat) (L : List K) (i : Nat) : Array Value := #[.int .i64 ((cl m i : Nat) : Int), .agg #[.int .i64 (cd L (cl m i)).1, .int .i64 (cd L (cl m i)).2]]

/-- what a round leaves: all below n₀, and the box -/
def KB (n₀ Bs : Nat) (A B : World) : Prop := Below n₀ A B ∧ B.heap[Bs]? = A.heap[Bs]?
theorem KB.refl (n₀ Bs : Nat) (A : World) : KB n₀ Bs A A := ⟨Below.refl _ _, rfl⟩
theorem KB.trans {n₀ Bs : Nat} {A B C : World} (h : KB n₀ Bs A B) (k : KB n₀ Bs B C) : KB n₀ Bs A C := ⟨h.1.trans k.1, k.2.trans h.2⟩
theorem KB.cell {n₀ Bs : Nat} {A B : World} (h : KB n₀ Bs A B) (i : Nat) : B.cell? ⟨Bs, i, none⟩ = A.cell? ⟨Bs, i, none⟩ := by simp only [World.cell?, h.2]

end Go.Proofs.YtkjmeknaedapjaaDoor
/-
  THE LONGEST WAYS: what the loop keeps.
-/
namespace Go.Proofs.YtkjmeknaedapjaaDoor
open Go.RowKit Go.Sort Go.Shelf

attribute [local go_sem] Oper.semAt_some

/-- the walk over one instruction: from what stands at its own place on -/
def mostW (m : List Int) (k : K) (i : Nat) : Int := (nextN i k.1 k.2).foldl (fun a t => max a (m.getD t 0)) (m.getD i 0) + 1
def stepM (L : List K) (m : List Int) (i : Nat) : List Int := m.set i (mostW m (cd L i) i)

theorem most_length (L : List K) (k : Nat) : (mostN L k).length = L.length + 1 := by
  induction k with
  | zero => simp [mostN]
  | succ k ih => rw [mostN, List.length_set, ih]
theorem most_zero (L : List K) (k i : Nat) (h : i + k < L.length) : (mostN L k).getD i 0 = 0 := by
  induction k with
  | zero => simp [mostN, List.getD_eq_getElem?_getD, List.getElem?_replicate]; split <;> rfl
  | succ k ih =>
    rw [mostN, getD_set _ _ _ _ (by rw [most_length]; omega), if_neg (by omega)]
    exact ih (by omega)
theorem most_step (L : List K) (k : Nat) (h : k < L.length) : mostN L (k + 1) = stepM L (mostN L k) (L.length - 1 - k) := by
  rw [mostN, stepM, mostW, most_zero L k _ (by omega), mostV]
def foldM (m : List Int) (nx : List Nat) (a : Int) : Int := nx.foldl (fun a t => max a (m.getD t 0)) a
theorem foldM_cons (m : List Int) (t : Nat) (nx : List Nat) (a : Int) : foldM m (t :: nx) a = foldM m nx (max a (m.getD t 0)) := rfl
/-- from 0 to b -/
def Few (m : List Int) (b : Int) : Prop := ∀ j, j < m.length → 0 ≤ m.getD j 0 ∧ m.getD j 0 ≤ b
theorem Few.mono {m : List Int} {b c : Int} (h : Few m b) (hc : b ≤ c) : Few m c := fun j hj => ⟨(h j hj).1, Int.le_trans (h j hj).2 hc⟩
theorem Few.set {m : List Int} {b x : Int} (h : Few m b) (i : Nat) (hx : 0 ≤ x ∧ x ≤ b) : Few (m.set i x) b := by
  intro j hj
  rw [List.length_set] at hj
  rw [getD_set m i j x hj]
  split
  · exact hx
  · exact h j hj
theorem foldM_few {m : List Int} {b : Int} (h : Few m b) (nx : List Nat) (hn : ∀ t ∈ nx, t < m.length) (a : Int) (ha : 0 ≤ a ∧ a ≤ b) : 0 ≤ foldM m nx a ∧ foldM m nx a ≤ b := by
  induction nx generalizing a with
  | nil => exact ha
  | cons t nx ih =>
    rw [foldM_cons]
    have h1 := h t (hn t (by simp))
    exact ih (fun t' ht => hn t' (by simp [ht])) _ (by omega)
/-- what stands while the loop runs -/
structure LI (W5 W : World) (g Bm Bs n cap : Nat) (ao : Option Addr) (m : List Int) : Prop where
  row : RowI W g m
  bm : Boxed W Bm 122 (.slice (some ⟨g, 0, none⟩) (n + 1) (n + 1))
  bs : Boxed W Bs 39 (.slice ao n cap)
  bel : Below g W5 W
theorem LI.keep {W5 W W' : World} {g Bm Bs n cap : Nat} {ao : Option Addr} {m : List Int} (h : LI W5 W g Bm Bs n cap ao m) (hk : ∀ k, k = g ∨ k = Bm ∨ k = Bs → W'.heap[k]? = W.heap[k]?) (hb : Below g W W') : LI W5 W' g Bm Bs n cap ao m :=
  ⟨(hk g (.inl rfl)).trans h.row, (hk Bm (.inr (.inl rfl))).trans h.bm, (hk Bs (.inr (.inr rfl))).trans h.bs, h.bel.trans hb⟩
theorem LI.kept {W5 W W' : World} {g Bm Bs n cap : Nat} {ao : Option Addr} {m : List Int} (h : LI W5 W g Bm Bs n cap ao m) (hb : Below W.heap.size W W') : LI W5 W' g Bm Bs n cap ao m :=
  h.keep (fun k hk => hb.block k (by rcases hk with rfl | rfl | rfl; exact h.row.lt; exact h.bm.lt; exact h.bs.lt)) (hb.mono (Nat.le_of_lt h.row.lt))
theorem LI.set {W5 W : World} {g Bm Bs n cap : Nat} {ao : Option Addr} {m : List Int} (h : LI W5 W g Bm Bs n cap ao m) (i : Nat) (z : Int) (h1 : Bm ≠ g) (h2 : Bs ≠ g) : LI W5 (W.setCell ⟨g, i, none⟩ (.int .i64 z)) g Bm Bs n cap ao (m.set i z) :=
  ⟨h.row.set i z, (heap_setCell_other W ⟨g, i, none⟩ Bm _ h1).trans h.bm, (heap_setCell_other W ⟨g, i, none⟩ Bs _ h2).trans h.bs, below_set h.bel _ _ (Nat.le_refl _)⟩
theorem LI.drewN {W5 W : World} {g Bm Bs n cap : Nat} {ao : Option Addr} {m : List Int} (h : LI W5 W g Bm Bs n cap ao m) (q : Nat) : LI W5 (W.drewN q) g Bm Bs n cap ao m := h.kept ⟨rfl, rfl, rfl, Nat.le_refl _, fun _ _ => rfl⟩
theorem keeps_below {W W' : World} (hb : Below W.heap.size W W') : KeepsOthers W W' := ⟨hb.size, fun _ _ h _ => (hb.block _ (Array.getElem?_eq_some_iff.1 h).1).trans h⟩
theorem KB.ofBelow {n₀ Bs : Nat} {A B : World} (h : Below A.heap.size A B) (h1 : n₀ ≤ A.heap.size) (h2 : Bs < A.heap.size) : KB n₀ Bs A B := ⟨h.mono h1, h.block Bs h2⟩
theorem KB.set {n₀ Bs g i : Nat} {A : World} (v : Value) (h1 : n₀ ≤ g) (h2 : Bs ≠ g) : KB n₀ Bs A (A.setCell ⟨g, i, none⟩ v) := ⟨below_set (Below.refl _ _) _ _ h1, heap_setCell_other A ⟨g, i, none⟩ Bs v h2⟩
theorem KB.put {n₀ Bs B : Nat} (h1 : n₀ ≤ B) (h2 : Bs < B) (W : World) (l : Nat) (o o' : Obj) (hl : B ≤ l) (_ : W.heap[l]? = some o) (_ : o.isCells = false) (_ : o.isWalk = false) : KB n₀ Bs W (W.putObj l o') :=
  ⟨⟨rfl, rfl, rfl, (grownBy_putObj' W l o').size, fun k hk => by by_cases hlt : k < W.heap.size
                                                                 · exact (grownBy_putObj' W l o').block k hlt (by simp; omega)
                                                                 · have := (grownBy_putObj' W l o').size; simp [World.putObj, Array.getElem?_eq_none_iff.2 (Nat.le_of_not_lt hlt)]; omega⟩,
   by by_cases hlt : Bs < W.heap.size
      · exact (grownBy_putObj' W l o').block Bs hlt (by simp; omega)
      · simp [World.putObj, Array.getElem?_eq_none_iff.2 (Nat.le_of_not_lt hlt)]; omega⟩
/-- the beginnings of the loop -/
def Chn (n : Nat) (pre : List Nat) : Prop := pre = dn n pre.length
theorem chn_snoc {n x : Nat} {pre : List Nat} (h : Chn n (pre ++ [x])) : Chn n pre ∧ x = n - 1 - pre.length := by
  unfold Chn at *
  rw [List.length_append, List.length_singleton, dn_succ] at h
  have h1 := List.append_inj' h rfl
  exact ⟨h1.1, by simpa using h1.2⟩
theorem chn_dn (n k : Nat) : Chn n (dn n k) := by unfold Chn; rw [dn_length]
def LInv (W5 : World) (g Bm Bs n cap : Nat) (ao : Option Addr) (L : List K) (pre : List Nat) (W : World) : Prop :=
  ∃ m, LI W5 W g Bm Bs n cap ao m ∧ m.length = n + 1 ∧ Few m (pre.length : Int) ∧ (Chn n pre → m = mostN L pre.length)

theorem set_self (m : List Int) (i : Nat) : m.set i (m.getD i 0) = m := by
  apply List.ext_getElem?
  intro j
  rw [List.getElem?_set]
  by_cases h : i = j
  · subst h
    by_cases hl : i < m.length
    · simp [hl, List.getD_eq_getElem?_getD]
    · simp [hl]
  · simp [h]
theorem verify_ok {p : Nums} {L : List K} (h : verifyN p L = 0) : limB p L.length = true ∧ lookAll p L L.length = 0 ∧ ∃ d, runD L L.length = some d ∧ depthsN p L = (d, 0) := by
  unfold verifyN depthsN at h
  unfold depthsN
  cases hl : limB p L.length with
  | false => rw [hl] at h; simp at h
  | true =>
    rw [hl, if_neg (by simp)] at h
    rw [if_neg (by simp)]
    by_cases h0 : lookAll p L L.length ≠ 0
    · rw [if_pos h0] at h; exact absurd h h0
    · rw [if_neg h0] at h ⊢
      cases hr : runD L L.length with
      | none => rw [hr] at h; simp at h
      | some d => exact ⟨rfl, by simpa using h0, d, rfl, rfl⟩

end Go.Proofs.YtkjmeknaedapjaaDoor
/-
  THE WALKS OF THE DOCUMENT's argument, Next.
-/
namespace Go.Proofs.YtkjmeknaedapjaaDoor
open Go.RowKit Go.Sort

set_option maxHeartbeats 2000000 in
theorem refArgument_any (w : World) (p : Nums) (ao : Option Addr) (n cap : Nat) (op a : Int) (h : isOpB op = true) :
    Calls Tryd.prog 97 #[pv p ao n cap, .agg #[.int .i64 op, .int .i64 a]] w fun e w' => e = .returned (.bool (fitsB p op a)) ∧ Below w.heap.size w w' := by
  have HE : Hid (∀ b : Bool, fitsB p op a = b → fitsB p op a = b) := fun b h => h
  obtain ⟨x1, x2, x3, x4⟩ := p
  go_enter Tryd.func97, Tryd.ntmps97
  go_wp2_with fail
  refine (refSpell_any _ _).mono ?_
  rintro e w1 ⟨rfl, hb1⟩
  rw [spellS_op h]
  have hb0 : Below w.heap.size w ((w.alloc (.cells #[.int .i64 x1, .int .i64 x2, .int .i64 x3, .int .i64 x4, .slice ao n cap] 41)).alloc (.cells #[.int .i64 op, .int .i64 a] 87)) := ((Below.refl _ _).alloc (Nat.le_refl _) _).alloc (by simp) _
  have HB : Hid (Below w.heap.size w w1) := hb0.trans (hb1.mono hb0.size)
  obtain ⟨y0, y1, y2, y3, y4⟩ := (PBox.below (PBox.new w ⟨x1, x2, x3, x4⟩ ao n cap |>.kept ((Below.refl _ _).alloc (Nat.le_refl _) (.cells #[.int .i64 op, .int .i64 a] 87))) hb1 (by simp; omega)).cells
  have hbx := (Box.new (w := w.alloc (.cells #[.int .i64 x1, .int .i64 x2, .int .i64 x3, .int .i64 x4, .slice ao n cap] 41)) (b := w.heap.size + 1) (x := op) (y := a) (by simp))
  have z0 := (hb1.cell (p := ⟨w.heap.size + 1, 0, none⟩) (by simp)).trans hbx.1
  have z1 := (hb1.cell (p := ⟨w.heap.size + 1, 1, none⟩) (by simp)).trans hbx.2
  have q1 := nm_at h 1 rfl [112, 117, 115, 104] (by decide +kernel)
  have q30 := nm_at h 30 rfl [106, 117, 109, 112] (by decide +kernel)
  have q31 := nm_at h 31 rfl [122, 101, 114, 111] (by decide +kernel)
  have q4 := nm_at h 4 rfl [108, 111, 97, 100] (by decide +kernel)
  have q5 := nm_at h 5 rfl [115, 97, 118, 101] (by decide +kernel)
  have q6 := nm_at h 6 rfl [97, 114, 103] (by decide +kernel)
  have q7 := nm_at h 7 rfl [103, 101, 116] (by decide +kernel)
  have q8 := nm_at h 8 rfl [104, 97, 115] (by decide +kernel)
  have q32 := nm_at h 32 rfl [112, 117, 116] (by decide +kernel)
  have q33 := nm_at h 33 rfl [100, 101, 108] (by decide +kernel)
  simp only at y0 y1 y2 y3
  clear hb1 hb0 hbx h
  rcases room_kinds op with h | h | h | h | h | h
  · rcases h with rfl | rfl | rfl <;>
    (go_wp2
     go_ret
     refine ⟨by rw [HE.out true (by simp [fitsB])]; rfl, HB.out⟩)
  · rcases h with rfl | rfl
    · skip
      by_cases h0 : 0 ≤ a
      · by_cases h1 : a < x4
        · go_wp2
          go_ret
          refine ⟨by rw [HE.out true (by simp [fitsB, roomN]; omega)]; rfl, HB.out⟩
        · have h1' : decide (a < x4) = false := by simpa using h1
          go_wp2
          go_ret
          refine ⟨by rw [HE.out false (by simp [fitsB, roomN]; omega)]; rfl, HB.out⟩
      · have h0' : decide (0 ≤ a) = false := by simpa using h0
        go_wp2
        go_ret
        refine ⟨by rw [HE.out false (by simp [fitsB, roomN]; omega)]; rfl, HB.out⟩
    · skip
      by_cases h0 : 0 ≤ a
      · by_cases h1 : a < x4
        · go_wp2
          go_ret
          refine ⟨by rw [HE.out true (by simp [fitsB, roomN]; omega)]; rfl, HB.out⟩
        · have h1' : decide (a < x4) = false := by simpa using h1
          go_wp2
          go_ret
          refine ⟨by rw [HE.out false (by simp [fitsB, roomN]; omega)]; rfl, HB.out⟩
      · have h0' : decide (0 ≤ a) = false := by simpa using h0
        go_wp2
        go_ret
        refine ⟨by rw [HE.out false (by simp [fitsB, roomN]; omega)]; rfl, HB.out⟩
  · subst h
    by_cases h0 : 0 ≤ a
    · by_cases h1 : a < x1
      · go_wp2
        go_ret
        refine ⟨by rw [HE.out true (by simp [fitsB, roomN]; omega)]; rfl, HB.out⟩
      · have h1' : decide (a < x1) = false := by simpa using h1
        go_wp2
        go_ret
        refine ⟨by rw [HE.out false (by simp [fitsB, roomN]; omega)]; rfl, HB.out⟩
    · have h0' : decide (0 ≤ a) = false := by simpa using h0
      go_wp2
      go_ret
      refine ⟨by rw [HE.out false (by simp [fitsB, roomN]; omega)]; rfl, HB.out⟩
  · rcases h with rfl | rfl
    · skip
      by_cases h0 : 0 ≤ a
      · by_cases h1 : a < x2
        · go_wp2
          go_ret
          refine ⟨by rw [HE.out true (by simp [fitsB, roomN]; omega)]; rfl, HB.out⟩
        · have h1' : decide (a < x2) = false := by simpa using h1
          go_wp2
          go_ret
          refine ⟨by rw [HE.out false (by simp [fitsB, roomN]; omega)]; rfl, HB.out⟩
      · have h0' : decide (0 ≤ a) = false := by simpa using h0
        go_wp2
        go_ret
        refine ⟨by rw [HE.out false (by simp [fitsB, roomN]; omega)]; rfl, HB.out⟩
    · skip
      by_cases h0 : 0 ≤ a
      · by_cases h1 : a < x2
        · go_wp2
          go_ret
          refine ⟨by rw [HE.out true (by simp [fitsB, roomN]; omega)]; rfl, HB.out⟩
        · have h1' : decide (a < x2) = false := by simpa using h1
          go_wp2
          go_ret
          refine ⟨by rw [HE.out false (by simp [fitsB, roomN]; omega)]; rfl, HB.out⟩
      · have h0' : decide (0 ≤ a) = false := by simpa using h0
        go_wp2
        go_ret
        refine ⟨by rw [HE.out false (by simp [fitsB, roomN]; omega)]; rfl, HB.out⟩
  · rcases h with rfl | rfl
    · skip
      by_cases h0 : 0 ≤ a
      · by_cases h1 : a < x3
        · go_wp2
          go_ret
          refine ⟨by rw [HE.out true (by simp [fitsB, roomN]; omega)]; rfl, HB.out⟩
        · have h1' : decide (a < x3) = false := by simpa using h1
          go_wp2
          go_ret
          refine ⟨by rw [HE.out false (by simp [fitsB, roomN]; omega)]; rfl, HB.out⟩
      · have h0' : decide (0 ≤ a) = false := by simpa using h0
        go_wp2
        go_ret
        refine ⟨by rw [HE.out false (by simp [fitsB, roomN]; omega)]; rfl, HB.out⟩
    · skip
      by_cases h0 : 0 ≤ a
      · by_cases h1 : a < x3
        · go_wp2
          go_ret
          refine ⟨by rw [HE.out true (by simp [fitsB, roomN]; omega)]; rfl, HB.out⟩
        · have h1' : decide (a < x3) = false := by simpa using h1
          go_wp2
          go_ret
          refine ⟨by rw [HE.out false (by simp [fitsB, roomN]; omega)]; rfl, HB.out⟩
      · have h0' : decide (0 ≤ a) = false := by simpa using h0
        go_wp2
        go_ret
        refine ⟨by rw [HE.out false (by simp [fitsB, roomN]; omega)]; rfl, HB.out⟩
  · obtain ⟨g1, g2, g3, g4, g5, g6, g7, g8, g9, g10⟩ := h
    rw [decide_eq_false g1] at q1
    rw [decide_eq_false g2] at q30
    rw [decide_eq_false g3] at q31
    rw [decide_eq_false g4] at q4
    rw [decide_eq_false g5] at q5
    rw [decide_eq_false g6] at q6
    rw [decide_eq_false g7] at q7
    rw [decide_eq_false g8] at q8
    rw [decide_eq_false g9] at q32
    rw [decide_eq_false g10] at q33
    by_cases h0 : a = 0
    · subst h0
      go_wp2
      go_ret
      refine ⟨by rw [HE.out true (by simp [fitsB, roomN, g1, g2, g3, g4, g5, g6, g7, g8, g9, g10])]; rfl, HB.out⟩
    · have h0' : (a == 0) = false := by simpa using h0
      go_wp2
      go_ret
      refine ⟨by rw [HE.out false (by simp [fitsB, roomN, g1, g2, g3, g4, g5, g6, g7, g8, g9, g10]; omega)]; rfl, HB.out⟩

/-- a list of numbers of a call's own: nil, or a row -/
def IntsAt (W : World) (B : Nat) (v : Value) (L : List Int) : Prop := (L = [] ∧ v = .slice none 0 0) ∨ ∃ g, v = .slice (some ⟨g, 0, none⟩) L.length L.length ∧ RowI W g L ∧ B ≤ g
theorem build_ints1 (u : World) (x : Int) : (Instr.buildSlice 122 1 #[(0, .int .i64 x)]).run Tryd.prog u = .ok (.slice (some ⟨u.heap.size, 0, none⟩) 1 1) (u.alloc (.cells #[.int .i64 x] 3)) := by
  obtain ⟨i0, hi, hz0, hz1, hz2⟩ := info_parts infoI
  refine run_buildSlice u 122 3 1 _ #[.int .i64 x] i0 (.int .i64 0) Tryd.underlying122 hi hz0 (by rw [hz1]; omega) (by rw [hz1]; omega) ?_
  rw [hz1]
  simp [Instr.fill, Value.cells]
  apply Array.ext'
  simp [Array.range]
theorem build_ints2 (u : World) (x y : Int) : (Instr.buildSlice 122 2 #[(0, .int .i64 x), (1, .int .i64 y)]).run Tryd.prog u = .ok (.slice (some ⟨u.heap.size, 0, none⟩) 2 2) (u.alloc (.cells #[.int .i64 x, .int .i64 y] 3)) := by
  obtain ⟨i0, hi, hz0, hz1, hz2⟩ := info_parts infoI
  refine run_buildSlice u 122 3 2 _ #[.int .i64 x, .int .i64 y] i0 (.int .i64 0) Tryd.underlying122 hi hz0 (by rw [hz1]; omega) (by rw [hz1]; omega) ?_
  rw [hz1]
  simp [Instr.fill, Value.cells]
  apply Array.ext'
  simp [Array.range]

set_option maxHeartbeats 2000000 in
theorem refNext_any (w : World) (p : Nums) (ao : Option Addr) (n cap i : Nat) (L : List K) (hL : KeysAt w ao L) (hn : n = L.length) (hi : i < n) (hm : n ≤ 256) (hs : Sane L) :
    Calls Tryd.prog 99 #[pv p ao n cap, .int .i64 (i : Int)] w fun e w' => ∃ v, e = .returned v ∧ IntsAt w' w.heap.size v ((nextN i (cd L i).1 (cd L i).2).map Int.ofNat) ∧ Below w.heap.size w w' := by
  obtain ⟨b, off, rfl, c1, c2⟩ := hL.get i (by omega)
  have hlt : b < w.heap.size := cell_lt c1
  obtain ⟨ho, hj⟩ := hs i (by omega)
  have HN : Hid (n = L.length) := hn
  clear hL hs hn
  have HNx : Hid (∀ l, nextN i (cd L i).1 (cd L i).2 = l → (nextN i (cd L i).1 (cd L i).2).map Int.ofNat = l.map Int.ofNat) := fun l h => by rw [h]
  generalize cd L i = k at *
  obtain ⟨op, a⟩ := k
  simp only at c1 c2 ho hj
  obtain ⟨x1, x2, x3, x4⟩ := p
  go_enter Tryd.func99, Tryd.ntmps99
  go_wp2_with fail
  have hb0 : Below w.heap.size w ((w.alloc (.cells #[.int .i64 x1, .int .i64 x2, .int .i64 x3, .int .i64 x4, .slice (some ⟨b, off, none⟩) n cap] 41)).alloc (.cells #[.int .i64 op, .int .i64 a] 87)) := ((Below.refl _ _).alloc (Nat.le_refl _) _).alloc (by simp) _
  refine (refSpell_any _ _).mono ?_
  rintro e w1 ⟨rfl, hb1⟩
  rw [spellS_op ho]
  have HB : Hid (Below w.heap.size w w1) := hb0.trans (hb1.mono hb0.size)
  have hbx := (Box.new (w := w.alloc (.cells #[.int .i64 x1, .int .i64 x2, .int .i64 x3, .int .i64 x4, .slice (some ⟨b, off, none⟩) n cap] 41)) (b := w.heap.size + 1) (x := op) (y := a) (by simp))
  have z1 := (hb1.cell (p := ⟨w.heap.size + 1, 1, none⟩) (by simp)).trans hbx.2
  have q0 := nm_at ho 0 rfl [115, 116, 111, 112] (by decide +kernel)
  have q36 := nm_at ho 36 rfl [97, 98, 111, 114, 116] (by decide +kernel)
  have q30 := nm_at ho 30 rfl [106, 117, 109, 112] (by decide +kernel)
  have q31 := nm_at ho 31 rfl [122, 101, 114, 111] (by decide +kernel)
  have HJ : Hid (jumpB op = true → (i : Int) < a ∧ a ≤ (L.length : Int)) := hj
  have hbs1 := build_ints1
  have hbs2 := build_ints2
  have hi2 : i < 256 := by omega
  have HR : Hid (∀ M : List Int, M ≠ [] → IntsAt (w1.alloc (.cells (cellsI M) 3)) w.heap.size (.slice (some ⟨w1.heap.size, 0, none⟩) M.length M.length) M ∧ Below w.heap.size w (w1.alloc (.cells (cellsI M) 3))) := fun M _ =>
    ⟨.inr ⟨w1.heap.size, rfl, RowI.new w1 M, HB.out.size⟩, HB.out.alloc HB.out.size _⟩
  clear hb1 hb0 hbx hj ho c1 c2
  rcases onw_kinds op with h | h | h | h
  · rcases h with rfl | rfl <;>
    (go_wp2
     go_ret
     exact ⟨_, rfl, .inl ⟨by rw [HNx.out [] (by simp [nextN])]; rfl, rfl⟩, HB.out⟩)
  · subst h
    have ha := HJ.out rfl
    have e := HNx.out [i + 1, a.toNat] (by simp [nextN])
    have ea : (a.toNat : Int) = a := by omega
    have HE : Hid ((nextN i 31 a).map Int.ofNat = [(i : Int) + 1, a]) := by rw [Hid, e]; simp [ea]
    clear e ea
    go_wp2
    go_ret
    have := HR.out [(i : Int) + 1, a] (by simp)
    rw [HE.out]
    exact ⟨_, rfl, this⟩
  · subst h
    have ha := HJ.out rfl
    have e := HNx.out [a.toNat] (by simp [nextN])
    have ea : (a.toNat : Int) = a := by omega
    have HE : Hid ((nextN i 30 a).map Int.ofNat = [a]) := by rw [Hid, e]; simp [ea]
    clear e ea
    go_wp2
    go_ret
    have := HR.out [a] (by simp)
    rw [HE.out]
    exact ⟨_, rfl, this⟩
  · obtain ⟨h1, h2, h3, h4⟩ := h
    rw [decide_eq_false h1] at q0
    rw [decide_eq_false h2] at q36
    rw [decide_eq_false h3] at q31
    rw [decide_eq_false h4] at q30
    have e := HNx.out [i + 1] (by simp [nextN, h1, h2, h3, h4])
    have HE : Hid ((nextN i op a).map Int.ofNat = [(i : Int) + 1]) := by rw [Hid, e]; simp
    clear e
    go_wp2
    go_ret
    have := HR.out [(i : Int) + 1] (by simp)
    rw [HE.out]
    exact ⟨_, rfl, this⟩

end Go.Proofs.YtkjmeknaedapjaaDoor
