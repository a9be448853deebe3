/-
  ROWS OF A MACHINE THAT ARE STORED INTO OR CLEARED.
-/
import Derived.Test.YtbpgafchagpmoaaXOps
namespace Go.Proofs.Ytbpgafchagpmoaa
open Go.RowKit Go.Sort

section
variable {w w1 : World} {base B : Nat} {O : Nat → Nat} {h : MH} {L : List K} {A : List Int} {R : List C} {m : M}
/-- WHAT A STORE INTO ROW v LEAVES -/
structure Only (w w' : World) (v : Value) : Prop where
  os : w'.os = w.os
  tape : w'.tape = w.tape
  output : w'.output = w.output
  size : w'.heap.size = w.heap.size
  block : ∀ k, v.ownBlock ≠ some k → w'.heap[k]? = w.heap[k]?
theorem Only.refl (w : World) (v : Value) : Only w w v := ⟨rfl, rfl, rfl, rfl, fun _ _ => rfl⟩
theorem Only.set {w w' : World} {g n cap : Nat} (hw : Only w w' (.slice (some ⟨g, 0, none⟩) n cap)) (i : Nat) (u : Value) : Only w (w'.setCell ⟨g, i, none⟩ u) (.slice (some ⟨g, 0, none⟩) n cap) :=
  ⟨hw.os, hw.tape, hw.output, by simpa using hw.size, fun k hk => (heap_setCell_other w' ⟨g, i, none⟩ k u (fun e => hk (by rw [e]; rfl))).trans (hw.block k hk)⟩
theorem Only.below {w w' : World} {v : Value} {C : Nat} (hw : Only w w' v) (hv : ∀ k, v.ownBlock = some k → C ≤ k) : Go.RowKit.Below C w w' :=
  ⟨hw.os, hw.tape, hw.output, by rw [hw.size]; exact Nat.le_refl _, fun k hk => hw.block k (fun e => by have := hv k e; omega)⟩
theorem MS.rowL (x : MS w base B O h L A R m) (hw : Only w w1 h.lv) {S : List Int} (hs : Own64 w1 base h.lv S) : MS w1 base B O h L A R { m with lo := S } := by
  have hne : ∀ k, O k ≠ 4 → w1.heap[k]? = w.heap[k]? := fun k hk => hw.block k (fun e => hk (x.ol k e))
  exact ⟨(hne B (by rw [x.oB]; decide)).trans x.box, x.hB, x.oB, ownsRow_same x.code (fun k e => hne k (by rw [x.oc k e]; decide)), ownsRow_same x.args (fun k e => hne k (by rw [x.oa k e]; decide)), ownsRow_same x.reads (fun k e => hne k (by rw [x.or k e]; decide)),
   ownsRow_same x.stack (fun k e => hne k (by rw [x.os k e]; decide)), hs, ownsRow_same x.out (fun k e => hne k (by rw [x.oo k e]; decide)), ownsRow_same x.puts (fun k e => hne k (by rw [x.op k e]; decide)),
   x.oc, x.oa, x.or, x.os, x.ol, x.oo, x.op, fun k hk => x.new k (by rw [← hw.size]; exact hk)⟩
theorem MS.rowP (x : MS w base B O h L A R m) (hw : Only w w1 h.pv) {S : List K} (hs : OwnP w1 base h.pv S) : MS w1 base B O h L A R { m with pu := S } := by
  have hne : ∀ k, O k ≠ 5 → w1.heap[k]? = w.heap[k]? := fun k hk => hw.block k (fun e => hk (x.op k e))
  exact ⟨(hne B (by rw [x.oB]; decide)).trans x.box, x.hB, x.oB, ownsRow_same x.code (fun k e => hne k (by rw [x.oc k e]; decide)), ownsRow_same x.args (fun k e => hne k (by rw [x.oa k e]; decide)), ownsRow_same x.reads (fun k e => hne k (by rw [x.or k e]; decide)),
   ownsRow_same x.stack (fun k e => hne k (by rw [x.os k e]; decide)), ownsRow_same x.locs (fun k e => hne k (by rw [x.ol k e]; decide)), ownsRow_same x.out (fun k e => hne k (by rw [x.oo k e]; decide)), hs,
   x.oc, x.oa, x.or, x.os, x.ol, x.oo, x.op, fun k hk => x.new k (by rw [← hw.size]; exact hk)⟩
end
/-- a list with others laid over it -/
def overL (xs : List Value) (o : Nat) : List Value → List Value
  | [] => xs
  | v :: r => overL (xs.set o v) (o + 1) r
theorem overL_eq : ∀ (vs xs : List Value) (o : Nat), o + vs.length = xs.length → overL xs o vs = xs.take o ++ vs
  | [], xs, o, h => by simp only [overL, List.append_nil]; rw [List.take_of_length_le (by simp at h; omega)]
  | v :: r, xs, o, h => by
    simp only [List.length_cons] at h
    rw [overL, overL_eq r (xs.set o v) (o + 1) (by rw [List.length_set]; omega)]
    have ho : o < xs.length := by omega
    rw [List.take_succ_eq_append_getElem (by rw [List.length_set]; exact ho), List.take_set_of_le (Nat.le_refl _)]
    simp
theorem owns_setCells {base e size g n cap : Nat} : ∀ (vs : List Value) (xs : List Value) (o : Nat) (w w0 : World), Only w0 w (.slice (some ⟨g, 0, none⟩) n cap) → w.ownsRow base e size (.slice (some ⟨g, 0, none⟩) n cap) n xs →
    (w.setCells g o vs).ownsRow base e size (.slice (some ⟨g, 0, none⟩) n cap) n (overL xs o vs) ∧ Only w0 (w.setCells g o vs) (.slice (some ⟨g, 0, none⟩) n cap)
  | [], _, _, _, _, ho, h => ⟨h, ho⟩
  | v :: r, xs, o, w, w0, ho, h => owns_setCells r (xs.set o v) (o + 1) (w.setCell ⟨g, o, none⟩ v) w0 (ho.set o v) (World.ownsRow.stored h o v).1
theorem cells_some {w : World} {base e size g n cap : Nat} {xs : List Value} (h : w.ownsRow base e size (.slice (some ⟨g, 0, none⟩) n cap) n xs) (j : Nat) (hj : j < n * size) : (w.cell? ⟨g, 0 + j, none⟩).isSome = true := by
  have hl := h.1
  rw [Nat.zero_add, World.ownsRow.cellAt h j hj, List.getElem?_eq_getElem (by rw [hl]; exact hj)]; rfl
/-- clear of a row whose elements are zs each -/
theorem run_clear_row (w : World) (base t e size n : Nat) (z : Value) (v : Value) (xs : List Value) (h : w.ownsRow base e size v n xs) (ht : Try.prog.underlying t = some (.slice e)) (hz : ∀ w, (zeroValue e).run Try.prog w = .ok z w) (h1 : ∀ i, i < n * size → ((Builtin.zeroCells z.cells n).toList.getD i undef).oneCell' = true) (hl : (Builtin.zeroCells z.cells n).toList.length = n * size) :
    ∃ w', (∀ ty, (Builtin.clear_ #[t] ty #[v]).run Try.prog w = .ok (.tuple #[]) w') ∧ w'.ownsRow base e size v n (Builtin.zeroCells z.cells n).toList ∧ Only w w' v := by
  have h0 := h
  obtain ⟨hxl, ⟨rfl, rfl⟩ | ⟨g, cap, cur, rfl, hb, hg, hnc, hcm, hcs, htk⟩⟩ := h
  · refine ⟨w, fun ty => by simp [Builtin.clear_, run_underlying ht], ?_, Only.refl _ _⟩
    rw [List.eq_nil_of_length_eq_zero (l := (Builtin.zeroCells z.cells 0).toList) (by rw [hl, Nat.zero_mul]), ← List.eq_nil_of_length_eq_zero (l := xs) (by rw [hxl, Nat.zero_mul])]
    exact h0
  · by_cases hn : n = 0
    · subst hn
      refine ⟨w, fun ty => by simp [Builtin.clear_, run_underlying ht], ?_, Only.refl _ _⟩
      rw [List.eq_nil_of_length_eq_zero (l := (Builtin.zeroCells z.cells 0).toList) (by rw [hl, Nat.zero_mul]), ← List.eq_nil_of_length_eq_zero (l := xs) (by rw [hxl, Nat.zero_mul])]
      exact h0
    · have hst := run_storeCells_cells (P := Try.prog) g 0 (Builtin.zeroCells z.cells n).toList 0 w (fun j hj => by rw [Nat.add_zero]; exact cells_some h0 j (by rw [← hl]; exact hj)) (fun j _ => frozen_of_row w g _ _ _ hg) (fun u hu => by
        obtain ⟨i, hi, rfl⟩ := List.mem_iff_getElem.1 hu
        have := h1 i (by rw [← hl]; exact hi)
        rw [List.getD_eq_getElem?_getD, List.getElem?_eq_getElem hi] at this
        exact this)
      simp only [Nat.add_zero] at hst
      obtain ⟨k1, k2⟩ := owns_setCells (Builtin.zeroCells z.cells n).toList xs 0 w w (Only.refl _ _) h0
      rw [overL_eq _ _ _ (by rw [hl, hxl, Nat.zero_add]), List.take_zero, List.nil_append] at k1
      obtain ⟨m, rfl⟩ : ∃ m, n = m + 1 := ⟨n - 1, by omega⟩
      exact ⟨_, fun ty => by simp [Builtin.clear_, run_underlying ht, hz, hst], k1, k2⟩
theorem zero64 (n : Nat) : (Builtin.zeroCells (Value.cells (.int .i64 0)) n).toList = (List.replicate n (0 : Int)).map iv := by
  simp only [Builtin.zeroCells, Value.cells]
  apply List.ext_getElem
  · simp
  · intro i h1 h2
    simp [Nat.mod_one]
theorem cks_replicate (n : Nat) : cks (List.replicate n (0, 0)) = (List.replicate (n * 2) (0 : Int)).map iv := by
  induction n with
  | zero => rfl
  | succ n ih => rw [List.replicate_succ, cks, ih, show (n + 1) * 2 = n * 2 + 1 + 1 by omega, List.replicate_succ, List.replicate_succ]; rfl
theorem zeroPut (n : Nat) : (Builtin.zeroCells (Value.cells (.agg #[.int .i64 0, .int .i64 0])) n).toList = cks (List.replicate n (0, 0)) := by
  rw [cks_replicate]
  simp only [Builtin.zeroCells, Value.cells]
  apply List.ext_getElem
  · simp
  · intro i h1 h2
    have : i % 2 = 0 ∨ i % 2 = 1 := by omega
    rcases this with h | h <;> simp [h]
theorem run_clear_64 (w : World) (base : Nat) (v : Value) (S : List Int) (h : Own64 w base v S) :
    ∃ w', (∀ ty, (Builtin.clear_ #[25] ty #[v]).run Try.prog w = .ok (.tuple #[]) w') ∧ Own64 w' base v (List.replicate S.length 0) ∧ Only w w' v := by
  obtain ⟨w', h1, h2, h3⟩ := run_clear_row w base 25 2 1 S.length (.int .i64 0) v _ h Try.underlying25 Try.zeroValue2 (fun i hi => by rw [zero64, List.getD_eq_getElem?_getD, List.getElem?_map, List.getElem?_replicate, if_pos (by omega)]; rfl) (by rw [zero64]; simp)
  refine ⟨w', h1, ?_, h3⟩
  rw [zero64] at h2
  show World.ownsRow _ _ _ _ _ (List.replicate S.length (0 : Int)).length _
  rw [List.length_replicate]; exact h2
theorem run_clear_puts (w : World) (base : Nat) (v : Value) (S : List K) (h : OwnP w base v S) :
    ∃ w', (∀ ty, (Builtin.clear_ #[31] ty #[v]).run Try.prog w = .ok (.tuple #[]) w') ∧ OwnP w' base v (List.replicate S.length (0, 0)) ∧ Only w w' v := by
  obtain ⟨w', h1, h2, h3⟩ := run_clear_row w base 31 60 2 S.length (.agg #[.int .i64 0, .int .i64 0]) v _ h Try.underlying31 Try.zeroValue60 (fun i hi => by rw [zeroPut, cks_replicate, List.getD_eq_getElem?_getD, List.getElem?_map, List.getElem?_replicate, if_pos (by omega)]; rfl) (by rw [zeroPut, cks_replicate]; simp)
  refine ⟨w', h1, ?_, h3⟩
  rw [zeroPut] at h2
  show World.ownsRow _ _ _ _ _ (List.replicate S.length ((0 : Int), (0 : Int))).length _
  rw [List.length_replicate]; exact h2
theorem cks_set (S : List K) (i : Nat) (k : K) : ((cks S).set (i * 2) (.int .i64 k.1)).set (i * 2 + 1) (.int .i64 k.2) = cks (S.set i k) := by
  induction S generalizing i with
  | nil => rfl
  | cons a S ih =>
    cases i with
    | zero => rfl
    | succ i =>
      rw [List.set_cons_succ, cks, cks, ← ih i, show (i + 1) * 2 = i * 2 + 1 + 1 by omega]
      rfl
theorem MS.putW {w : World} {base B : Nat} {O : Nat → Nat} {h : MH} {L : List K} {A : List Int} {R : List C} {m : M} (x : MS w base B O h L A R m) {g n cap : Nat} (hv : h.pv = .slice (some ⟨g, 0, none⟩) n cap) (i : Nat) (k : K) (q : Nat) :
    MS (((w.setCell ⟨g, i * 2, none⟩ (.int .i64 k.1)).setCell ⟨g, i * 2 + 1, none⟩ (.int .i64 k.2)).drewN q) base B O h L A R { m with pu := m.pu.set i k } := by
  have hp := x.puts
  have hn : n = m.pu.length := by
    rw [hv] at hp
    obtain ⟨_, ⟨h, _⟩ | ⟨g', cap', cur, e, _⟩⟩ := hp
    · cases h
    · cases e; rfl
  refine (x.rowP (w1 := ((w.setCell ⟨g, i * 2, none⟩ (.int .i64 k.1)).setCell ⟨g, i * 2 + 1, none⟩ (.int .i64 k.2)).drewN q) ?_ ?_)
  · rw [hv]
    have ho := ((Only.refl w (.slice (some ⟨g, 0, none⟩) n cap)).set (i * 2) (.int .i64 k.1)).set (i * 2 + 1) (.int .i64 k.2)
    exact ⟨ho.os, ho.tape, ho.output, ho.size, ho.block⟩
  · rw [hv, hn] at hp
    rw [hv, hn]
    have := (World.ownsRow.stored (World.ownsRow.stored hp (i * 2) (.int .i64 k.1)).1 (i * 2 + 1) (.int .i64 k.2)).1
    rw [cks_set] at this
    show World.ownsRow _ _ _ _ _ (m.pu.set i k).length _
    rw [List.length_set]; exact this
end Go.Proofs.Ytbpgafchagpmoaa
