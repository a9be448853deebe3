import Derived.Test.YtiiplikmoodfnaaGreatDoorKLRef1
import Derived.Test.YtiiplikmoodfnaaGreatDoorKAFault
import Derived.Laws.AppendOwnNone
import Derived.Maps.AppendAt
/-
  THE WALKS OF THE DOCUMENT's argument, Next.
-/
namespace Go.Proofs.YtiiplikmoodfnaaGreatDoor
open Go.RowKit Go.Sort

set_option maxHeartbeats 2000000 in
theorem refArgument_any (w : World) (p : Nums) (ao : Option Addr) (n cap : Nat) (op a : Int) (h : isOpB op = true) :
    Calls Tryz.prog 64 #[pv p ao n cap, .agg #[.int .i64 op, .int .i64 a]] w fun e w' => e = .returned (.bool (fitsB p op a)) ∧ Below w.heap.size w w' := by
  have HE : Hid (∀ b : Bool, fitsB p op a = b → fitsB p op a = b) := fun b h => h
  obtain ⟨x1, x2, x3, x4⟩ := p
  go_enter Tryz.func64, Tryz.ntmps64
  go_wp2_with fail
  refine (refSpell_any _ _).mono ?_
  rintro e w1 ⟨rfl, hb1⟩
  rw [spellS_op h]
  have hb0 : Below w.heap.size w ((w.alloc (.cells #[.int .i64 x1, .int .i64 x2, .int .i64 x3, .int .i64 x4, .slice ao n cap] 42)).alloc (.cells #[.int .i64 op, .int .i64 a] 76)) := ((Below.refl _ _).alloc (Nat.le_refl _) _).alloc (by simp) _
  have HB : Hid (Below w.heap.size w w1) := hb0.trans (hb1.mono hb0.size)
  obtain ⟨y0, y1, y2, y3, y4⟩ := (PBox.below (PBox.new w ⟨x1, x2, x3, x4⟩ ao n cap |>.kept ((Below.refl _ _).alloc (Nat.le_refl _) (.cells #[.int .i64 op, .int .i64 a] 76))) hb1 (by simp; omega)).cells
  have hbx := (Box.new (w := w.alloc (.cells #[.int .i64 x1, .int .i64 x2, .int .i64 x3, .int .i64 x4, .slice ao n cap] 42)) (b := w.heap.size + 1) (x := op) (y := a) (by simp))
  have z0 := (hb1.cell (p := ⟨w.heap.size + 1, 0, none⟩) (by simp)).trans hbx.1
  have z1 := (hb1.cell (p := ⟨w.heap.size + 1, 1, none⟩) (by simp)).trans hbx.2
  have q1 := nm_at h 1 rfl [112, 117, 115, 104] (by decide +kernel)
  have q30 := nm_at h 30 rfl [106, 117, 109, 112] (by decide +kernel)
  have q31 := nm_at h 31 rfl [122, 101, 114, 111] (by decide +kernel)
  have q4 := nm_at h 4 rfl [108, 111, 97, 100] (by decide +kernel)
  have q5 := nm_at h 5 rfl [115, 97, 118, 101] (by decide +kernel)
  have q6 := nm_at h 6 rfl [97, 114, 103] (by decide +kernel)
  have q7 := nm_at h 7 rfl [103, 101, 116] (by decide +kernel)
  have q8 := nm_at h 8 rfl [104, 97, 115] (by decide +kernel)
  have q32 := nm_at h 32 rfl [112, 117, 116] (by decide +kernel)
  have q33 := nm_at h 33 rfl [100, 101, 108] (by decide +kernel)
  simp only at y0 y1 y2 y3
  clear hb1 hb0 hbx h
  rcases room_kinds op with h | h | h | h | h | h
  · rcases h with rfl | rfl | rfl <;>
    (go_wp2
     go_ret
     refine ⟨by rw [HE.out true (by simp [fitsB])]; rfl, HB.out⟩)
  · rcases h with rfl | rfl
    · skip
      by_cases h0 : 0 ≤ a
      · by_cases h1 : a < x4
        · go_wp2
          go_ret
          refine ⟨by rw [HE.out true (by simp [fitsB, roomN]; omega)]; rfl, HB.out⟩
        · have h1' : decide (a < x4) = false := by simpa using h1
          go_wp2
          go_ret
          refine ⟨by rw [HE.out false (by simp [fitsB, roomN]; omega)]; rfl, HB.out⟩
      · have h0' : decide (0 ≤ a) = false := by simpa using h0
        go_wp2
        go_ret
        refine ⟨by rw [HE.out false (by simp [fitsB, roomN]; omega)]; rfl, HB.out⟩
    · skip
      by_cases h0 : 0 ≤ a
      · by_cases h1 : a < x4
        · go_wp2
          go_ret
          refine ⟨by rw [HE.out true (by simp [fitsB, roomN]; omega)]; rfl, HB.out⟩
        · have h1' : decide (a < x4) = false := by simpa using h1
          go_wp2
          go_ret
          refine ⟨by rw [HE.out false (by simp [fitsB, roomN]; omega)]; rfl, HB.out⟩
      · have h0' : decide (0 ≤ a) = false := by simpa using h0
        go_wp2
        go_ret
        refine ⟨by rw [HE.out false (by simp [fitsB, roomN]; omega)]; rfl, HB.out⟩
  · subst h
    by_cases h0 : 0 ≤ a
    · by_cases h1 : a < x1
      · go_wp2
        go_ret
        refine ⟨by rw [HE.out true (by simp [fitsB, roomN]; omega)]; rfl, HB.out⟩
      · have h1' : decide (a < x1) = false := by simpa using h1
        go_wp2
        go_ret
        refine ⟨by rw [HE.out false (by simp [fitsB, roomN]; omega)]; rfl, HB.out⟩
    · have h0' : decide (0 ≤ a) = false := by simpa using h0
      go_wp2
      go_ret
      refine ⟨by rw [HE.out false (by simp [fitsB, roomN]; omega)]; rfl, HB.out⟩
  · rcases h with rfl | rfl
    · skip
      by_cases h0 : 0 ≤ a
      · by_cases h1 : a < x2
        · go_wp2
          go_ret
          refine ⟨by rw [HE.out true (by simp [fitsB, roomN]; omega)]; rfl, HB.out⟩
        · have h1' : decide (a < x2) = false := by simpa using h1
          go_wp2
          go_ret
          refine ⟨by rw [HE.out false (by simp [fitsB, roomN]; omega)]; rfl, HB.out⟩
      · have h0' : decide (0 ≤ a) = false := by simpa using h0
        go_wp2
        go_ret
        refine ⟨by rw [HE.out false (by simp [fitsB, roomN]; omega)]; rfl, HB.out⟩
    · skip
      by_cases h0 : 0 ≤ a
      · by_cases h1 : a < x2
        · go_wp2
          go_ret
          refine ⟨by rw [HE.out true (by simp [fitsB, roomN]; omega)]; rfl, HB.out⟩
        · have h1' : decide (a < x2) = false := by simpa using h1
          go_wp2
          go_ret
          refine ⟨by rw [HE.out false (by simp [fitsB, roomN]; omega)]; rfl, HB.out⟩
      · have h0' : decide (0 ≤ a) = false := by simpa using h0
        go_wp2
        go_ret
        refine ⟨by rw [HE.out false (by simp [fitsB, roomN]; omega)]; rfl, HB.out⟩
  · rcases h with rfl | rfl
    · skip
      by_cases h0 : 0 ≤ a
      · by_cases h1 : a < x3
        · go_wp2
          go_ret
          refine ⟨by rw [HE.out true (by simp [fitsB, roomN]; omega)]; rfl, HB.out⟩
        · have h1' : decide (a < x3) = false := by simpa using h1
          go_wp2
          go_ret
          refine ⟨by rw [HE.out false (by simp [fitsB, roomN]; omega)]; rfl, HB.out⟩
      · have h0' : decide (0 ≤ a) = false := by simpa using h0
        go_wp2
        go_ret
        refine ⟨by rw [HE.out false (by simp [fitsB, roomN]; omega)]; rfl, HB.out⟩
    · skip
      by_cases h0 : 0 ≤ a
      · by_cases h1 : a < x3
        · go_wp2
          go_ret
          refine ⟨by rw [HE.out true (by simp [fitsB, roomN]; omega)]; rfl, HB.out⟩
        · have h1' : decide (a < x3) = false := by simpa using h1
          go_wp2
          go_ret
          refine ⟨by rw [HE.out false (by simp [fitsB, roomN]; omega)]; rfl, HB.out⟩
      · have h0' : decide (0 ≤ a) = false := by simpa using h0
        go_wp2
        go_ret
        refine ⟨by rw [HE.out false (by simp [fitsB, roomN]; omega)]; rfl, HB.out⟩
  · obtain ⟨g1, g2, g3, g4, g5, g6, g7, g8, g9, g10⟩ := h
    rw [decide_eq_false g1] at q1
    rw [decide_eq_false g2] at q30
    rw [decide_eq_false g3] at q31
    rw [decide_eq_false g4] at q4
    rw [decide_eq_false g5] at q5
    rw [decide_eq_false g6] at q6
    rw [decide_eq_false g7] at q7
    rw [decide_eq_false g8] at q8
    rw [decide_eq_false g9] at q32
    rw [decide_eq_false g10] at q33
    by_cases h0 : a = 0
    · subst h0
      go_wp2
      go_ret
      refine ⟨by rw [HE.out true (by simp [fitsB, roomN, g1, g2, g3, g4, g5, g6, g7, g8, g9, g10])]; rfl, HB.out⟩
    · have h0' : (a == 0) = false := by simpa using h0
      go_wp2
      go_ret
      refine ⟨by rw [HE.out false (by simp [fitsB, roomN, g1, g2, g3, g4, g5, g6, g7, g8, g9, g10]; omega)]; rfl, HB.out⟩

/-- a list of numbers of a call's own: nil, or a row -/
def IntsAt (W : World) (B : Nat) (v : Value) (L : List Int) : Prop := (L = [] ∧ v = .slice none 0 0) ∨ ∃ g, v = .slice (some ⟨g, 0, none⟩) L.length L.length ∧ RowI W g L ∧ B ≤ g
theorem build_ints1 (u : World) (x : Int) : (Instr.buildSlice 120 1 #[(0, .int .i64 x)]).run Tryz.prog u = .ok (.slice (some ⟨u.heap.size, 0, none⟩) 1 1) (u.alloc (.cells #[.int .i64 x] 3)) := by
  obtain ⟨i0, hi, hz0, hz1, hz2⟩ := info_parts infoI
  refine run_buildSlice u 120 3 1 _ #[.int .i64 x] i0 (.int .i64 0) Tryz.underlying120 hi hz0 (by rw [hz1]; omega) (by rw [hz1]; omega) ?_
  rw [hz1]
  simp [Instr.fill, Value.cells]
  apply Array.ext'
  simp [Array.range]
theorem build_ints2 (u : World) (x y : Int) : (Instr.buildSlice 120 2 #[(0, .int .i64 x), (1, .int .i64 y)]).run Tryz.prog u = .ok (.slice (some ⟨u.heap.size, 0, none⟩) 2 2) (u.alloc (.cells #[.int .i64 x, .int .i64 y] 3)) := by
  obtain ⟨i0, hi, hz0, hz1, hz2⟩ := info_parts infoI
  refine run_buildSlice u 120 3 2 _ #[.int .i64 x, .int .i64 y] i0 (.int .i64 0) Tryz.underlying120 hi hz0 (by rw [hz1]; omega) (by rw [hz1]; omega) ?_
  rw [hz1]
  simp [Instr.fill, Value.cells]
  apply Array.ext'
  simp [Array.range]

set_option maxHeartbeats 2000000 in
theorem refNext_any (w : World) (p : Nums) (ao : Option Addr) (n cap i : Nat) (L : List K) (hL : KeysAt w ao L) (hn : n = L.length) (hi : i < n) (hm : n ≤ 256) (hs : Sane L) :
    Calls Tryz.prog 66 #[pv p ao n cap, .int .i64 (i : Int)] w fun e w' => ∃ v, e = .returned v ∧ IntsAt w' w.heap.size v ((nextN i (cd L i).1 (cd L i).2).map Int.ofNat) ∧ Below w.heap.size w w' := by
  obtain ⟨b, off, rfl, c1, c2⟩ := hL.get i (by omega)
  have hlt : b < w.heap.size := cell_lt c1
  obtain ⟨ho, hj⟩ := hs i (by omega)
  have HN : Hid (n = L.length) := hn
  clear hL hs hn
  have HNx : Hid (∀ l, nextN i (cd L i).1 (cd L i).2 = l → (nextN i (cd L i).1 (cd L i).2).map Int.ofNat = l.map Int.ofNat) := fun l h => by rw [h]
  generalize cd L i = k at *
  obtain ⟨op, a⟩ := k
  simp only at c1 c2 ho hj
  obtain ⟨x1, x2, x3, x4⟩ := p
  go_enter Tryz.func66, Tryz.ntmps66
  go_wp2_with fail
  have hb0 : Below w.heap.size w ((w.alloc (.cells #[.int .i64 x1, .int .i64 x2, .int .i64 x3, .int .i64 x4, .slice (some ⟨b, off, none⟩) n cap] 42)).alloc (.cells #[.int .i64 op, .int .i64 a] 76)) := ((Below.refl _ _).alloc (Nat.le_refl _) _).alloc (by simp) _
  refine (refSpell_any _ _).mono ?_
  rintro e w1 ⟨rfl, hb1⟩
  rw [spellS_op ho]
  have HB : Hid (Below w.heap.size w w1) := hb0.trans (hb1.mono hb0.size)
  have hbx := (Box.new (w := w.alloc (.cells #[.int .i64 x1, .int .i64 x2, .int .i64 x3, .int .i64 x4, .slice (some ⟨b, off, none⟩) n cap] 42)) (b := w.heap.size + 1) (x := op) (y := a) (by simp))
  have z1 := (hb1.cell (p := ⟨w.heap.size + 1, 1, none⟩) (by simp)).trans hbx.2
  have q0 := nm_at ho 0 rfl [115, 116, 111, 112] (by decide +kernel)
  have q36 := nm_at ho 36 rfl [97, 98, 111, 114, 116] (by decide +kernel)
  have q30 := nm_at ho 30 rfl [106, 117, 109, 112] (by decide +kernel)
  have q31 := nm_at ho 31 rfl [122, 101, 114, 111] (by decide +kernel)
  have HJ : Hid (jumpB op = true → (i : Int) < a ∧ a ≤ (L.length : Int)) := hj
  have hbs1 := build_ints1
  have hbs2 := build_ints2
  have hi2 : i < 256 := by omega
  have HR : Hid (∀ M : List Int, M ≠ [] → IntsAt (w1.alloc (.cells (cellsI M) 3)) w.heap.size (.slice (some ⟨w1.heap.size, 0, none⟩) M.length M.length) M ∧ Below w.heap.size w (w1.alloc (.cells (cellsI M) 3))) := fun M _ =>
    ⟨.inr ⟨w1.heap.size, rfl, RowI.new w1 M, HB.out.size⟩, HB.out.alloc HB.out.size _⟩
  clear hb1 hb0 hbx hj ho c1 c2
  rcases onw_kinds op with h | h | h | h
  · rcases h with rfl | rfl <;>
    (go_wp2
     go_ret
     exact ⟨_, rfl, .inl ⟨by rw [HNx.out [] (by simp [nextN])]; rfl, rfl⟩, HB.out⟩)
  · subst h
    have ha := HJ.out rfl
    have e := HNx.out [i + 1, a.toNat] (by simp [nextN])
    have ea : (a.toNat : Int) = a := by omega
    have HE : Hid ((nextN i 31 a).map Int.ofNat = [(i : Int) + 1, a]) := by rw [Hid, e]; simp [ea]
    clear e ea
    go_wp2
    go_ret
    have := HR.out [(i : Int) + 1, a] (by simp)
    rw [HE.out]
    exact ⟨_, rfl, this⟩
  · subst h
    have ha := HJ.out rfl
    have e := HNx.out [a.toNat] (by simp [nextN])
    have ea : (a.toNat : Int) = a := by omega
    have HE : Hid ((nextN i 30 a).map Int.ofNat = [a]) := by rw [Hid, e]; simp [ea]
    clear e ea
    go_wp2
    go_ret
    have := HR.out [a] (by simp)
    rw [HE.out]
    exact ⟨_, rfl, this⟩
  · obtain ⟨h1, h2, h3, h4⟩ := h
    rw [decide_eq_false h1] at q0
    rw [decide_eq_false h2] at q36
    rw [decide_eq_false h3] at q31
    rw [decide_eq_false h4] at q30
    have e := HNx.out [i + 1] (by simp [nextN, h1, h2, h3, h4])
    have HE : Hid ((nextN i op a).map Int.ofNat = [(i : Int) + 1]) := by rw [Hid, e]; simp
    clear e
    go_wp2
    go_ret
    have := HR.out [(i : Int) + 1] (by simp)
    rw [HE.out]
    exact ⟨_, rfl, this⟩

end Go.Proofs.YtiiplikmoodfnaaGreatDoor
/-
  SLICES OF NUMBERS OF THE CALL's OWN; append.
-/
namespace Go.Proofs.YtiiplikmoodfnaaGreatDoor
open Go.RowKit Go.Sort

/-- numbers that are read -/
def IRead (W : World) (g : Nat) (L : List Int) : Prop := ∀ j, j < L.length → W.cell? ⟨g, j, none⟩ = some (.int .i64 (L.getD j 0))
theorem RowI.read {W : World} {g : Nat} {L : List Int} (h : RowI W g L) : IRead W g L := fun j hj => h.cell j hj
theorem IRead.below {W W' : World} {g B : Nat} {L : List Int} (h : IRead W g L) (hb : Below B W W') (hg : g < B) : IRead W' g L := fun j hj => (hb.cell (p := ⟨g, j, none⟩) hg).trans (h j hj)
theorem IRead.lt {W : World} {g : Nat} {L : List Int} (h : IRead W g L) (hL : L ≠ []) : g < W.heap.size := cell_lt (h 0 (by cases L with | nil => exact absurd rfl hL | cons => simp))
theorem IRead.kept {W W' : World} {g : Nat} {L : List Int} (h : IRead W g L) (hb : Below W.heap.size W W') : IRead W' g L := fun j hj => (hb.cell (p := ⟨g, j, none⟩) (cell_lt (h j hj))).trans (h j hj)
theorem IRead.other {W : World} {g : Nat} {L : List Int} (h : IRead W g L) (a : Addr) (v : Value) (hne : g ≠ a.block) : IRead (W.setCell a v) g L := fun j hj => by
  have := heap_setCell_other W a g v hne
  have h2 := h j hj
  simp only [World.cell?] at h2 ⊢
  rw [this]; exact h2

def OwnI (w : World) (base : Nat) (v : Value) (L : List Int) : Prop := w.ownsRow base 3 1 v L.length (L.map iv)
theorem OwnI.shape {w : World} {base : Nat} {v : Value} {L : List Int} (h : OwnI w base v L) :
    (v = .slice none 0 0 ∧ L = []) ∨ ∃ g cap, v = .slice (some ⟨g, 0, none⟩) L.length cap ∧ base ≤ g ∧ g < w.heap.size ∧ L.length ≤ cap ∧ cap ≤ maxLen ∧ IRead w g L := by
  obtain ⟨hl, h⟩ := h
  rcases h with ⟨rfl, h0⟩ | ⟨g, cap, cur, rfl, hb, hg, hn, hm, hs, ht⟩
  · exact .inl ⟨rfl, List.eq_nil_of_length_eq_zero h0⟩
  · refine .inr ⟨g, cap, rfl, hb, (Array.getElem?_eq_some_iff.1 hg).1, hn, hm, fun j hj => ?_⟩
    have e := World.ownsRow.cellAt (w := w) (base := base) (e := 3) (size := 1) (g := g) (cap := cap) ⟨hl, .inr ⟨g, cap, cur, rfl, hb, hg, hn, hm, hs, ht⟩⟩ j (by omega)
    rw [e]
    simp [List.getD_eq_getElem?_getD, List.getElem?_eq_getElem hj]
theorem OwnI.row {w : World} {base g n cap : Nat} {L : List Int} (h : OwnI w base (.slice (some ⟨g, 0, none⟩) n cap) L) : base ≤ g ∧ n = L.length ∧ n ≤ cap ∧ g < w.heap.size ∧ IRead w g L := by
  rcases h.shape with ⟨h, _⟩ | ⟨g', cap', h, h1, h2, h3, _, h4⟩
  · cases h
  · simp only [Value.slice.injEq, Option.some.injEq, Addr.mk.injEq] at h
    obtain ⟨⟨rfl, _⟩, rfl, rfl⟩ := h
    exact ⟨h1, rfl, h3, h2, h4⟩
theorem OwnI.frozen {w : World} {base g n cap : Nat} {L : List Int} (h : OwnI w base (.slice (some ⟨g, 0, none⟩) n cap) L) (j : Nat) : w.frozen? ⟨g, j, none⟩ = false := by
  obtain ⟨hl, h0 | ⟨g', cap', cur, e, hb, hg, r⟩⟩ := h
  · cases h0.1
  · cases e; exact frozen_of_row w g j _ _ hg
theorem OwnI.set {w : World} {base g n cap : Nat} {L : List Int} (h : OwnI w base (.slice (some ⟨g, 0, none⟩) n cap) L) (p : Nat) (z : Int) : OwnI (w.setCell ⟨g, p, none⟩ (.int .i64 z)) base (.slice (some ⟨g, 0, none⟩) n cap) (L.set p z) := by
  have hn := h.row.2.1
  subst hn
  have hs := World.ownsRow.stored h p (.int .i64 z)
  unfold OwnI
  rw [List.length_set, List.map_set]
  exact hs.1
theorem OwnI.ofRow {w : World} {g : Nat} {L : List Int} (h : RowI w g L) (hm : L.length ≤ maxLen) {base : Nat} (hb : base ≤ g) : OwnI w base (.slice (some ⟨g, 0, none⟩) L.length L.length) L := by
  refine ⟨by simp, .inr ⟨g, L.length, cellsI L, rfl, hb, h, Nat.le_refl _, hm, by simp [size_cellsI], ?_⟩⟩
  simp only [cellsI, Nat.mul_one]
  rw [List.take_of_length_le (by simp)]
theorem OwnI.lt {w : World} {base : Nat} {v : Value} {L : List Int} (h : OwnI w base v L) : ∀ k, v.ownBlock = some k → base ≤ k ∧ k < w.heap.size := World.ownsRow.lt h
theorem OwnI.same {w w1 : World} {base : Nat} {v : Value} {L : List Int} (h : OwnI w base v L) (hs : ∀ g, v.ownBlock = some g → w1.heap[g]? = w.heap[g]?) : OwnI w1 base v L := by
  obtain ⟨hl, h⟩ := h
  refine ⟨hl, ?_⟩
  rcases h with h | ⟨g, cap, cur, rfl, hg, hh, r⟩
  · exact .inl h
  · exact .inr ⟨g, cap, cur, rfl, hg, (hs g rfl).trans hh, r⟩
theorem OwnI.kept {w w1 : World} {base : Nat} {v : Value} {L : List Int} (h : OwnI w base v L) (hb : Below w.heap.size w w1) : OwnI w1 base v L := h.same fun g hg => hb.block g (h.lt g hg).2
theorem OwnI.alloc {w : World} {base : Nat} {v : Value} {L : List Int} (h : OwnI w base v L) (o : Obj) : OwnI (w.alloc o) base v L := h.kept ((Below.refl _ _).alloc (Nat.le_refl _) _)

/-- append of one number -/
theorem run_append_int {w : World} (ty : TypeId) (base : Nat) (v : Value) (L : List Int) (hown : OwnI w base v L) (B : Nat) (x : Int) (hB : w.cell? ⟨B, 0, none⟩ = some (.int .i64 x)) (hlen : L.length + 1 ≤ 1000000) (hbase : base ≤ w.heap.size) :
    ∃ v' w', (Builtin.append_ #[120, 120] ty #[v, .slice (some ⟨B, 0, none⟩) 1 1]).run Tryz.prog w = .ok v' w' ∧ OwnI w' base v' (L ++ [x]) ∧ w.grownBy w' v.ownBlock ∧ (v'.ownBlock = v.ownBlock ∨ v'.ownBlock = some w.heap.size) := by
  obtain ⟨i0, hi, hz0, hz1, hz2⟩ := info_parts infoI
  obtain ⟨v', w', hr, h2, h3, _, h5⟩ := run_append_own_at (P := Tryz.prog) w base 120 ty 3 i0 (.int .i64 0) 1 8 Tryz.underlying120 hi hz0 hz1 hz2 rfl (by decide) v L.length (L.map iv) hown ⟨B, 0, none⟩ 1 1 [.int .i64 x] (by simp)
    (by
      intro j u hu
      match j, hu with
      | 0, hu => simp at hu; rw [addr_add, ← hu]; exact hB
      | j + 1, hu => simp at hu) (by intro u hu; simp at hu; rw [hu]; rfl) (by unfold maxLen; omega) (by omega) hbase
  refine ⟨v', w', hr, ?_, h3, h5⟩
  unfold OwnI
  rw [List.length_append, List.map_append]
  exact h2
theorem wpList_append_int {w : World} {ops : Array Oper} {rest : List Oper} {o : Oper} {a : Act} {Q : Exit → Act → World → Prop} (hgd : o.guard = none) (s x : Operand)
    (ho : o.op = .call { callee := .builtin .append, args := #[s, x], argTypes := #[120, 120] }) (base : Nat) (v : Value) (L : List Int) (hs : a.eval s = v) (hown : OwnI w base v L)
    (B : Nat) (z : Int) (hx : a.eval x = .slice (some ⟨B, 0, none⟩) 1 1) (hB : w.cell? ⟨B, 0, none⟩ = some (.int .i64 z)) (hlen : L.length + 1 ≤ 1000000) (hbase : base ≤ w.heap.size)
    (h : ∀ v' w', OwnI w' base v' (L ++ [z]) → w.grownBy w' v.ownBlock → (v'.ownBlock = v.ownBlock ∨ v'.ownBlock = some w.heap.size) → wpList Tryz.prog ops Q rest (a.put o.dst v') w') : wpList Tryz.prog ops Q (o :: rest) a w := by
  obtain ⟨v', w', hr, h2, h3, h4⟩ := run_append_int o.type base v L hown B z hB hlen hbase
  refine wpList_plain hgd fun K hK' => ?_
  unfold Oper.wp
  simp [execOp, ho, resolve, invoke, builtin, hs, hx, hr, Result.andThen]
  exact hK' _ _ (h v' w' h2 h3 h4)

end Go.Proofs.YtiiplikmoodfnaaGreatDoor
