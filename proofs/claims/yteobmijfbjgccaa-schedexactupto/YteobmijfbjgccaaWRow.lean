/-
  ROWS OF BOOLS, OF NUMBERS AND OF VERSIONS.
-/
import Derived.Test.YteobmijfbjgccaaKBase
import Derived.Test.YteobmijfbjgccaaWDMath
import Derived.Laws.OwnMore
import Derived.Laws.AppendOwnNone
import Derived.Laws.CopyRow
import Derived.Maps.AppendAt
import Derived.Deep.DeepAppendRoom
namespace Go.Proofs.Yteobmijfbjgccaa
open Go.RowKit Go.Sort

theorem hidW {p : Prop} (h : p) : Hid p := h
theorem addW (b off j : Nat) : (⟨b, off, none⟩ : Addr).add j = ⟨b, off + j, none⟩ := by unfold Addr.add; split <;> simp_all
theorem setW_block (w : World) (a : Addr) (u : Value) (k : Nat) (hk : k ≠ a.block) : (w.setCell a u).heap[k]? = w.heap[k]? := by
  exact heap_setCell_other w a k u (fun e => hk (by rw [e]))
/-- cells that can be read -/
def WAt (w : World) (ao : Option Addr) (xs : List Value) : Prop := ∀ (j : Nat) (u : Value), xs[j]? = some u → ∃ b off, ao = some ⟨b, off, none⟩ ∧ w.cell? ⟨b, off + j, none⟩ = some u
theorem WAt.below {w w' : World} {ao : Option Addr} {xs : List Value} (h : WAt w ao xs) (hb : Below w.heap.size w w') : WAt w' ao xs := fun j u hu => by
  obtain ⟨b, off, h1, h2⟩ := h j u hu
  exact ⟨b, off, h1, (hb.cell (p := ⟨b, off + j, none⟩) (cell_lt h2)).trans h2⟩
theorem WAt.belowN {N : Nat} {w w' : World} {ao : Option Addr} {xs : List Value} (h : WAt w ao xs) (hb : Below N w w') (hN : ∀ a, ao = some a → a.block < N) : WAt w' ao xs := fun j u hu => by
  obtain ⟨b, off, h1, h2⟩ := h j u hu
  exact ⟨b, off, h1, (hb.cell (p := ⟨b, off + j, none⟩) (hN ⟨b, off, none⟩ h1)).trans h2⟩
theorem WAt.grew {w w' : World} {ao : Option Addr} {xs : List Value} (h : WAt w ao xs) (hb : Grew w w') : WAt w' ao xs := h.below hb.below
/-- a version: batch, index, filled, its cell -/
structure V5 where
  b : Int
  i : Int
  f : Bool
  ci : Bool
  cv : Int
def v5c (x : V5) : List Value := [.int .i64 x.b, .int .i64 x.i, .bool x.f, .bool x.ci, .int .i64 x.cv]
def v5s (l : List V5) : List Value := l.flatMap v5c
theorem v5s_len (l : List V5) : (v5s l).length = l.length * 5 := by
  induction l with
  | nil => rfl
  | cons x l ih => simp only [v5s, List.flatMap_cons, List.length_append] at *; rw [ih]; simp [v5c]; omega
theorem v5s_app (A B : List V5) : v5s (A ++ B) = v5s A ++ v5s B := by simp [v5s]
theorem v5s_at (l : List V5) (i m : Nat) (hi : i < l.length) (hm : m < 5) : (v5s l)[i * 5 + m]? = (v5c l[i])[m]? := by
  induction l generalizing i with
  | nil => simp at hi
  | cons x l ih =>
    have e : v5s (x :: l) = v5c x ++ v5s l := rfl
    rw [e]
    cases i with
    | zero =>
      rw [List.getElem?_append_left (by simp [v5c]; omega)]
      simp
    | succ i =>
      rw [List.getElem?_append_right (by simp [v5c]; omega)]
      simp only [v5c, List.length_cons, List.length_nil, List.getElem_cons_succ]
      rw [show (i + 1) * 5 + m - 5 = i * 5 + m by omega]
      exact ih i (by simpa using hi)
theorem v5s_one (l : List V5) : ∀ v ∈ v5s l, v.oneCell' = true := by
  intro v hv
  obtain ⟨x, _, hx⟩ := List.mem_flatMap.1 hv
  simp only [v5c, List.mem_cons, List.not_mem_nil, or_false] at hx
  rcases hx with rfl | rfl | rfl | rfl | rfl <;> rfl
theorem WAt.v5 {w : World} {ao : Option Addr} {l : List V5} (h : WAt w ao (v5s l)) (i : Nat) (hi : i < l.length) : ∃ b off, ao = some ⟨b, off, none⟩ ∧ w.cell? ⟨b, off + i * 5, none⟩ = some (.int .i64 l[i].b) ∧ w.cell? ⟨b, off + i * 5 + 1, none⟩ = some (.int .i64 l[i].i) ∧ w.cell? ⟨b, off + i * 5 + 2, none⟩ = some (.bool l[i].f) ∧ w.cell? ⟨b, off + i * 5 + 3, none⟩ = some (.bool l[i].ci) ∧ w.cell? ⟨b, off + i * 5 + 4, none⟩ = some (.int .i64 l[i].cv) := by
  have g : ∀ m u, m < 5 → (v5c l[i])[m]? = some u → (v5s l)[i * 5 + m]? = some u := fun m u hm hu => by rw [v5s_at l i m hi hm]; exact hu
  obtain ⟨b, off, h1, h2⟩ := h _ _ (g 0 _ (by omega) rfl)
  have hh : ∀ m u, m < 5 → (v5c l[i])[m]? = some u → w.cell? ⟨b, off + i * 5 + m, none⟩ = some u := fun m u hm hu => by
    obtain ⟨b', off', h3, h4⟩ := h _ _ (g m u hm hu)
    rw [h1] at h3
    cases h3
    rw [Nat.add_assoc]
    exact h4
  exact ⟨b, off, h1, hh 0 _ (by omega) rfl, hh 1 _ (by omega) rfl, hh 2 _ (by omega) rfl, hh 3 _ (by omega) rfl, hh 4 _ (by omega) rfl⟩
def i64s (l : List Int) : List Value := l.map (Value.int .i64)
theorem i64s_one (l : List Int) : ∀ v ∈ i64s l, v.oneCell' = true := fun v hv => by obtain ⟨x, _, rfl⟩ := List.mem_map.1 hv; rfl
theorem WAt.int {w : World} {ao : Option Addr} {l : List Int} (h : WAt w ao (i64s l)) (i : Nat) (hi : i < l.length) : ∃ b off, ao = some ⟨b, off, none⟩ ∧ w.cell? ⟨b, off + i, none⟩ = some (.int .i64 l[i]) := h i _ (by simp [i64s, hi])
/-- BLOCK g IS A ROW OF BOOLS -/
def blsW (L : List Bool) : Array Value := (L.map Value.bool).toArray
def WB (w : World) (g : Nat) (L : List Bool) : Prop := w.heap[g]? = some (.cells (blsW L) 4 (0, 0))
theorem WB.lt {w : World} {g : Nat} {L : List Bool} (h : WB w g L) : g < w.heap.size := (Array.getElem?_eq_some_iff.1 h).1
theorem WB.cell {w : World} {g : Nat} {L : List Bool} (h : WB w g L) {j : Nat} {x : Bool} (hx : L[j]? = some x) : w.cell? ⟨g, j, none⟩ = some (.bool x) := by
  simp [World.cell?, show w.heap[g]? = _ from h, blsW, hx]
theorem WB.frozen {w : World} {g : Nat} {L : List Bool} (h : WB w g L) (j : Nat) : w.frozen? ⟨g, j, none⟩ = false := frozen_of_row w g j _ _ h
theorem WB.kept {N : Nat} {w w1 : World} {g : Nat} {L : List Bool} (h : WB w g L) (hb : Below N w w1) (hN : g < N) : WB w1 g L := (hb.block g hN).trans h
theorem WB.set {w : World} {g : Nat} {L : List Bool} (h : WB w g L) (i : Nat) (z : Bool) : WB (w.setCell ⟨g, i, none⟩ (.bool z)) g (L.set i z) := by
  have := heap_setCell_same w g i _ _ (.bool z) h
  unfold WB
  rw [this]
  simp [blsW, List.map_set]
theorem WB.other {w : World} {g k : Nat} {L : List Bool} (h : WB w g L) (i : Nat) (v : Value) (hk : k ≠ g) : WB (w.setCell ⟨k, i, none⟩ v) g L := by
  exact (setW_block w ⟨k, i, none⟩ v g (fun e => hk e.symm)).trans h
theorem WB.own {w : World} {g : Nat} {L : List Bool} (h : WB w g L) (base : Nat) (hb : base ≤ g) (hm : L.length ≤ maxLen) : w.ownsRow base 4 1 (.slice (some ⟨g, 0, none⟩) L.length L.length) L.length (L.map Value.bool) :=
  ⟨by simp, .inr ⟨g, L.length, _, rfl, hb, h, Nat.le_refl _, hm, by simp [blsW], by rw [Nat.mul_one, blsW, ← List.length_map (f := Value.bool), List.take_length]⟩⟩
theorem infoWB : (Try.prog.info? 4).map (fun i => (i.zero, i.size, i.bytes)) = some (some (.bool false), 1, 1) := by kernel_rfl
theorem infoWI : (Try.prog.info? 3).map (fun i => (i.zero, i.size, i.bytes)) = some (some (.int .i64 0), 1, 8) := by kernel_rfl
def intsW (L : List Int) : Array Value := (i64s L).toArray
theorem make_intsW (c : Nat) (C : Int) (hC : C = c) (hc : c * 8 ≤ 140737488355328) (u : World) : (Instr.makeSlice 23 (.int .i64 C) (.int .i64 C)).run Try.prog u =
    .ok (.slice (some ⟨u.heap.size, 0, none⟩) c c) (u.alloc (.cells (intsW (List.replicate c 0)) 3)) := by
  obtain ⟨i0, hi, hz0, hz1, hz2⟩ := info_parts infoWI
  subst hC
  have h := run_make (P := Try.prog) u 23 3 i0 (.int .i64 0) Try.underlying23 hi hz0 .i64 .i64 (c : Int) (c : Int) (by omega) (Int.le_refl _) (by rw [hz2]; omega) (by omega)
  have e : madeCells #[.int .i64 0] c = intsW (List.replicate c 0) := by
    apply Array.ext'
    rw [toList_madeCells_one]
    simp [intsW, i64s]
  rw [← e]
  simpa [hz1, Value.cells] using h
/-- BLOCK g IS A ROW OF NUMBERS -/
def WI (w : World) (g : Nat) (L : List Int) : Prop := w.heap[g]? = some (.cells (intsW L) 3 (0, 0))
theorem WI.lt {w : World} {g : Nat} {L : List Int} (h : WI w g L) : g < w.heap.size := (Array.getElem?_eq_some_iff.1 h).1
theorem WI.cell {w : World} {g : Nat} {L : List Int} (h : WI w g L) {j : Nat} {x : Int} (hx : L[j]? = some x) : w.cell? ⟨g, j, none⟩ = some (.int .i64 x) := by
  simp [World.cell?, show w.heap[g]? = _ from h, intsW, i64s, hx]
theorem WI.frozen {w : World} {g : Nat} {L : List Int} (h : WI w g L) (j : Nat) : w.frozen? ⟨g, j, none⟩ = false := frozen_of_row w g j _ _ h
theorem WI.kept {N : Nat} {w w1 : World} {g : Nat} {L : List Int} (h : WI w g L) (hb : Below N w w1) (hN : g < N) : WI w1 g L := (hb.block g hN).trans h
theorem WI.set {w : World} {g : Nat} {L : List Int} (h : WI w g L) (i : Nat) (z : Int) : WI (w.setCell ⟨g, i, none⟩ (.int .i64 z)) g (L.set i z) := by
  have := heap_setCell_same w g i _ _ (.int .i64 z) h
  unfold WI
  rw [this]
  simp [intsW, i64s, List.map_set]
theorem own_atW {w : World} {base T sz n cap : Nat} {ao : Option Addr} {xs : List Value} (h : w.ownsRow base T sz (.slice ao n cap) n xs) : WAt w ao xs := by
  intro j u hu
  have h0 := h
  obtain ⟨hl, ⟨h1, h2⟩ | ⟨g, cap', cur, e1, _⟩⟩ := h
  · have h0 : xs = [] := List.eq_nil_of_length_eq_zero (by rw [hl, h2, Nat.zero_mul])
    rw [h0] at hu; simp at hu
  · cases e1
    have hj : j < n * sz := by rw [← hl]; exact (List.getElem?_eq_some_iff.1 hu).1
    exact ⟨g, 0, rfl, by rw [Nat.zero_add, World.ownsRow.cellAt h0 j hj, hu]⟩
/-- append of cells that lie somewhere -/
theorem app_at {TS TE : TypeId} {sz bt : Nat} {z : Value} (hu : Try.prog.underlying TS = some (.slice TE)) (hinfo : (Try.prog.info? TE).map (fun i => (i.zero, i.size, i.bytes)) = some (some z, sz, bt)) (hzs : z.cells.size = sz) (hpos : 0 < sz) {w : World} (ty : TypeId) (base : Nat) (v : Value) (n : Nat) (xs : List Value) (hown : w.ownsRow base TE sz v n xs) (ao : Option Addr) (m c : Nat) (ys : List Value) (hm : ys.length = m * sz) (hsrc : WAt w ao ys) (h0 : ao = none → c = 0) (h1 : ∀ u ∈ ys, u.oneCell' = true) (hlen : n + m ≤ maxLen) (hb : (n + m) * bt ≤ 140737488355328) (hbase : base ≤ w.heap.size) :
    ∃ v' w', (Builtin.append_ #[TS, TS] ty #[v, .slice ao m c]).run Try.prog w = .ok v' w' ∧ w'.ownsRow base TE sz v' (n + m) (xs ++ ys) ∧ w.grownBy w' v.ownBlock ∧ (v'.ownBlock = v.ownBlock ∨ v'.ownBlock = some w.heap.size) ∧ (v ≠ .slice none 0 0 → v' ≠ .slice none 0 0) := by
  obtain ⟨i0, hi, hz0, hz1, hz2⟩ := info_parts hinfo
  cases ao with
  | none =>
    have hy : ys = [] := by
      cases ys with
      | nil => rfl
      | cons y ys =>
        obtain ⟨_, _, h2, _⟩ := hsrc 0 y rfl
        cases h2
    subst hy
    have hm0 : m = 0 := by
      rcases Nat.eq_zero_or_pos m with h | h
      · exact h
      · have := Nat.mul_pos h hpos; simp at hm; omega
    subst hm0
    obtain rfl := h0 rfl
    exact ⟨v, w, run_append_owned_none (P := Try.prog) (w := w) base TS ty TE i0 sz hu hi v n xs hown, by simpa using hown, World.grownBy.refl _ _, .inl rfl, fun h => h⟩
  | some ad =>
    obtain ⟨v', w', hr, h2, h3, h4, h5⟩ := run_append_own_at (P := Try.prog) (w := w) base TS ty TE i0 z sz bt hu hi hz0 hz1 hz2 hzs hpos v n xs hown ad m c ys hm (by
      intro j u hu
      obtain ⟨b', off', e, h⟩ := hsrc j u hu
      cases e
      rw [addW]
      exact h) h1 hlen hb hbase
    exact ⟨v', w', hr, h2, h3, h5, fun hv e => hv (h4.1 e).1⟩
theorem own_openW {w : World} {base T sz n : Nat} {v : Value} {xs : List Value} (h : w.ownsRow base T sz v n xs) (hne : v ≠ .slice none 0 0) : ∃ g c, v = .slice (some ⟨g, 0, none⟩) n c ∧ base ≤ g ∧ g < w.heap.size ∧ n ≤ c := by
  obtain ⟨_, ⟨e, _⟩ | ⟨g, cap, cur, e, hg, hh, hn, _⟩⟩ := h
  · exact absurd e hne
  · exact ⟨g, cap, e, hg, (Array.getElem?_eq_some_iff.1 hh).1, hn⟩
end Go.Proofs.Yteobmijfbjgccaa
