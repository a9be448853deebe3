import Derived.Test.YtcaibgbhebldmaaGreatJ31
import Derived.Laws.AppendOwnNone
import Derived.Maps.AppendAt
/-
  THE WALKS OF A MACHINE's SMALL METHODS.
-/
namespace Go.Proofs.YtcaibgbhebldmaaGreat
open Go.RowKit Go.Sort

theorem info64 : (Tryz.prog.info? 2).map (fun i => (i.zero, i.size, i.bytes)) = some (some (.int .i64 0), 1, 8) := by kernel_rfl
theorem cell_new64 (w : World) (x : Int) : (w.alloc (.cells #[.int .i64 x] 2)).cell? ⟨w.heap.size, 0, none⟩ = some (.int .i64 x) := by
  rw [World.cell?, heap_alloc_new (w := w) (.cells #[.int .i64 x] 2) w.heap.size rfl]; rfl
/-- append of one number -/
theorem run_append_64 {w : World} (ty : TypeId) (base : Nat) (v : Value) (S : List Int) (hown : Own64 w base v S) (B : Nat) (x : Int) (hB : w.cell? ⟨B, 0, none⟩ = some (.int .i64 x)) (hlen : S.length + 1 ≤ 1000000) (hbase : base ≤ w.heap.size) :
    ∃ v' w', (Builtin.append_ #[43, 43] ty #[v, .slice (some ⟨B, 0, none⟩) 1 1]).run Tryz.prog w = .ok v' w' ∧ Own64 w' base v' (S ++ [x]) ∧ w.grownBy w' v.ownBlock ∧ (v'.ownBlock = v.ownBlock ∨ v'.ownBlock = some w.heap.size) := by
  obtain ⟨i0, hi, hz0, hz1, hz2⟩ := info_parts info64
  obtain ⟨v', w', hr, h2, h3, _, h5⟩ := run_append_own_at (P := Tryz.prog) w base 43 ty 2 i0 (.int .i64 0) 1 8 Tryz.underlying43 hi hz0 hz1 hz2 rfl (by decide) v S.length (S.map iv) hown ⟨B, 0, none⟩ 1 1 [.int .i64 x] (by simp)
    (by
      intro j u hu
      match j, hu with
      | 0, hu => simp at hu; rw [addr_add, ← hu]; exact hB
      | j + 1, hu => simp at hu) (by intro u hu; simp at hu; rw [hu]; rfl) (by unfold maxLen; omega) (by omega) hbase
  refine ⟨v', w', hr, ?_, h3, h5⟩
  show World.ownsRow _ _ _ _ _ (S ++ [x]).length ((S ++ [x]).map iv)
  rw [List.length_append, List.map_append]
  exact h2
theorem wpList_append_64 {w : World} {ops : Array Oper} {rest : List Oper} {o : Oper} {a : Act} {Q : Exit → Act → World → Prop} (hgd : o.guard = none) (s x : Operand)
    (ho : o.op = .call { callee := .builtin .append, args := #[s, x], argTypes := #[43, 43] }) (base : Nat) (v : Value) (S : List Int) (hs : a.eval s = v) (hown : Own64 w base v S)
    (B : Nat) (z : Int) (hx : a.eval x = .slice (some ⟨B, 0, none⟩) 1 1) (hB : w.cell? ⟨B, 0, none⟩ = some (.int .i64 z)) (hlen : S.length + 1 ≤ 1000000) (hbase : base ≤ w.heap.size)
    (h : ∀ v' w', Own64 w' base v' (S ++ [z]) → w.grownBy w' v.ownBlock → (v'.ownBlock = v.ownBlock ∨ v'.ownBlock = some w.heap.size) → wpList Tryz.prog ops Q rest (a.put o.dst v') w') : wpList Tryz.prog ops Q (o :: rest) a w := by
  obtain ⟨v', w', hr, h2, h3, h4⟩ := run_append_64 o.type base v S hown B z hB hlen hbase
  refine wpList_plain hgd fun K hK' => ?_
  unfold Oper.wp
  simp [execOp, ho, resolve, invoke, builtin, hs, hx, hr, Result.andThen]
  exact hK' _ _ (h v' w' h2 h3 h4)

abbrev pm (B : Nat) : Value := .pointer (some ⟨B, 0, none⟩)
theorem MS.pushed {w w' : World} {base B : Nat} {O : Nat → Nat} {h : MH} {L : List K} {A : List Int} {R : List C} {m : M} {F : Nat → Prop} (hm : MS w base B O h L A R m) (hF : Apt w F O) {v' : Value} {x : Int} (h1 : Own64 w' base v' (m.st.reverse ++ [x])) (h2 : w.grownBy w' h.sv.ownBlock) (h3 : v'.ownBlock = h.sv.ownBlock ∨ v'.ownBlock = some w.heap.size) :
    ∃ ao n cap, v' = .slice ao n cap ∧ w'.cell? ⟨B, 4, none⟩ = some h.sv ∧ w'.frozen? ⟨B, 4, none⟩ = false ∧ Hid (MSt (w'.setCell ⟨B, 4, none⟩ v') F B h.z L A R (m.push x) ∧ Fr F w (w'.setCell ⟨B, 4, none⟩ v')) := by
  have hbk : w'.heap[B]? = some (.cells (boxOf h m) 130 (0, 0)) := (h2.block B hm.lt (fun e => by have := hm.os B e.symm; rw [hm.oB] at this; cases this)).trans hm.box
  obtain ⟨ao, cap, e, _⟩ := own_slice h1
  exact ⟨ao, _, cap, e, by rw [World.cell?, hbk]; rfl, frozen_of_row w' B 4 _ _ hbk, hm.stacked (S := x :: m.st) h2 (by rw [List.reverse_cons]; exact h1) h3 hF⟩
theorem MS.outed {w w' : World} {base B : Nat} {O : Nat → Nat} {h : MH} {L : List K} {A : List Int} {R : List C} {m : M} {F : Nat → Prop} (hm : MS w base B O h L A R m) (hF : Apt w F O) {v' : Value} {x : Int} (h1 : Own64 w' base v' (m.ou ++ [x])) (h2 : w.grownBy w' h.ov.ownBlock) (h3 : v'.ownBlock = h.ov.ownBlock ∨ v'.ownBlock = some w.heap.size) :
    ∃ ao n cap, v' = .slice ao n cap ∧ w'.cell? ⟨B, 6, none⟩ = some h.ov ∧ w'.frozen? ⟨B, 6, none⟩ = false ∧ Hid (MSt (w'.setCell ⟨B, 6, none⟩ v') F B h.z L A R { m with ou := m.ou ++ [x] } ∧ Fr F w (w'.setCell ⟨B, 6, none⟩ v')) := by
  have hbk : w'.heap[B]? = some (.cells (boxOf h m) 130 (0, 0)) := (h2.block B hm.lt (fun e => by have := hm.oo B e.symm; rw [hm.oB] at this; cases this)).trans hm.box
  obtain ⟨ao, cap, e, _⟩ := own_slice h1
  exact ⟨ao, _, cap, e, by rw [World.cell?, hbk]; rfl, frozen_of_row w' B 6 _ _ hbk, hm.told h2 h1 h3 hF⟩
theorem push_any (w : World) (F : Nat → Prop) (B : Nat) (Z : MZ) (L : List K) (A : List Int) (R : List C) (m : M) (x : Int) (hm : MSt w F B Z L A R m) (hl : m.st.length ≤ 1000) :
    Calls Tryz.prog 76 #[pm B, .int .i64 x] w fun e w' => e = .returned (.tuple #[]) ∧ MSt w' F B Z L A R (m.push x) ∧ Fr F w w' := by
  obtain ⟨O, h, hm, hF, rfl⟩ := hm
  have hm' : MS (w.alloc (.cells #[.int .i64 x] 2)) 0 B O h L A R m := hm.kept ((Below.refl _ _).alloc (Nat.le_refl _) _)
  have HB0 : Hid (Fr F w (w.alloc (.cells #[.int .i64 x] 2))) := Fr.ofBelow ((Below.refl _ _).alloc (Nat.le_refl _) _) (fun k hk => (hF k hk).2)
  have HF : Hid (Apt (w.alloc (.cells #[.int .i64 x] 2)) F O) := fun k hk => ⟨(hF k hk).1, by have := (hF k hk).2; simp; omega⟩
  have HM : Hid (MS (w.alloc (.cells #[.int .i64 x] 2)) 0 B O h L A R m) := hm'
  have c4 : w.cell? ⟨B, 4, none⟩ = some h.sv := hm.cell 4
  have HL : Hid (m.st.length ≤ 1000) := hl
  clear hm hm' hl hF
  go_enter Tryz.func76, Tryz.ntmps76
  go_wp2_with (at_builtin; refine wpList_append_64 rfl _ _ rfl 0 h.sv m.st.reverse rfl HM.out.stack _ x rfl (cell_new64 _ _) (by have := HL.out; simp; omega) HM.out.size ?_; intro v' w' h1 h2 h3; obtain ⟨ao, n, cap, rfl, c4', f4, HG'⟩ := HM.out.pushed HF.out h1 h2 h3; clear h1 h2 h3)
  go_end0
  exact ⟨rfl, HG'.out.1, HB0.out.trans HG'.out.2⟩

theorem pop_any (w : World) (F : Nat → Prop) (B : Nat) (Z : MZ) (L : List K) (A : List Int) (R : List C) (m : M) (hm : MSt w F B Z L A R m) (h0 : 0 < m.st.length) (hl : m.st.length ≤ 1000) :
    Calls Tryz.prog 75 #[pm B] w fun e w' => e = .returned (.int .i64 m.top) ∧ MSt w' F B Z L A R m.pop ∧ Fr F w w' := by
  obtain ⟨O, h, hm, hF, rfl⟩ := hm
  obtain ⟨at_, st, lo, ou, pu, en, fa, us, sp⟩ := m
  cases st with
  | nil => simp at h0
  | cons x st =>
    simp only [List.length_cons] at hl
    have hst := hm.stack
    simp only [List.reverse_cons] at hst
    obtain ⟨g, cap, hv, hcap⟩ := hst.shape (by simp)
    rw [hv] at hst
    have cx := hst.cell st.length (by simp)
    have e1 : (st.reverse ++ [x]).getD st.length 0 = x := by simp [List.getD_eq_getElem?_getD]
    rw [e1] at cx
    have hn : (st.reverse ++ [x]).length = st.length + 1 := by simp
    rw [hn] at hv hcap
    have hcut := hst.cut
    rw [List.length_reverse] at hcut
    have c4 : w.cell? ⟨B, 4, none⟩ = some h.sv := hm.cell 4
    have f4 := hm.frozen 4
    have HG : Hid (MS (w.setCell ⟨B, 4, none⟩ (.slice (some ⟨g, 0, none⟩) st.length cap)) 0 B O { h with sv := .slice (some ⟨g, 0, none⟩) st.length cap } L A R ⟨at_, st, lo, ou, pu, en, fa, us, sp⟩) :=
      hm.store 4 _ _ _ rfl rfl rfl rfl rfl rfl hcut (fun k e => hm.os k (by rw [hv]; exact e)) hm.out hm.oo rfl rfl
    have HB : Hid (Fr F w (w.setCell ⟨B, 4, none⟩ (.slice (some ⟨g, 0, none⟩) st.length cap))) := (Fr.refl F w).set _ _ (fun hk => by have := (hF B hk).1; rw [hm.oB] at this; cases this)
    have HF : Hid (Apt (w.setCell ⟨B, 4, none⟩ (.slice (some ⟨g, 0, none⟩) st.length cap)) F O) := fun k hk => ⟨(hF k hk).1, by have := (hF k hk).2; simpa using this⟩
    rw [hv] at c4
    generalize st.length = n at *
    clear hm hF hst e1 hn hcut
    go_enter Tryz.func75, Tryz.ntmps75
    go_wp2
    go_ret
    exact ⟨rfl, ⟨O, _, HG.out, HF.out, rfl⟩, HB.out⟩
end Go.Proofs.YtcaibgbhebldmaaGreat
/-
  ROWS OF A MACHINE THAT ARE STORED INTO OR CLEARED.
-/
namespace Go.Proofs.YtcaibgbhebldmaaGreat
open Go.RowKit Go.Sort

section
variable {w w1 : World} {base B : Nat} {O : Nat → Nat} {h : MH} {L : List K} {A : List Int} {R : List C} {m : M}
/-- WHAT A STORE INTO ROW v LEAVES -/
structure Only (w w' : World) (v : Value) : Prop where
  os : w'.os = w.os
  tape : w'.tape = w.tape
  output : w'.output = w.output
  size : w'.heap.size = w.heap.size
  block : ∀ k, v.ownBlock ≠ some k → w'.heap[k]? = w.heap[k]?
theorem Only.refl (w : World) (v : Value) : Only w w v := ⟨rfl, rfl, rfl, rfl, fun _ _ => rfl⟩
theorem Only.set {w w' : World} {g n cap : Nat} (hw : Only w w' (.slice (some ⟨g, 0, none⟩) n cap)) (i : Nat) (u : Value) : Only w (w'.setCell ⟨g, i, none⟩ u) (.slice (some ⟨g, 0, none⟩) n cap) :=
  ⟨hw.os, hw.tape, hw.output, by simpa using hw.size, fun k hk => (heap_setCell_other w' ⟨g, i, none⟩ k u (fun e => hk (by rw [e]; rfl))).trans (hw.block k hk)⟩
theorem Only.below {w w' : World} {v : Value} {C : Nat} (hw : Only w w' v) (hv : ∀ k, v.ownBlock = some k → C ≤ k) : Go.RowKit.Below C w w' :=
  ⟨hw.os, hw.tape, hw.output, by rw [hw.size]; exact Nat.le_refl _, fun k hk => hw.block k (fun e => by have := hv k e; omega)⟩
theorem MS.rowL (x : MS w base B O h L A R m) (hw : Only w w1 h.lv) {S : List Int} (hs : Own64 w1 base h.lv S) : MS w1 base B O h L A R { m with lo := S } := by
  have hne : ∀ k, O k ≠ 4 → w1.heap[k]? = w.heap[k]? := fun k hk => hw.block k (fun e => hk (x.ol k e))
  exact ⟨(hne B (by rw [x.oB]; decide)).trans x.box, x.hB, x.oB, ownsRow_same x.code (fun k e => hne k (by rw [x.oc k e]; decide)), ownsRow_same x.args (fun k e => hne k (by rw [x.oa k e]; decide)), ownsRow_same x.reads (fun k e => hne k (by rw [x.or k e]; decide)),
   ownsRow_same x.stack (fun k e => hne k (by rw [x.os k e]; decide)), hs, ownsRow_same x.out (fun k e => hne k (by rw [x.oo k e]; decide)), ownsRow_same x.puts (fun k e => hne k (by rw [x.op k e]; decide)),
   x.oc, x.oa, x.or, x.os, x.ol, x.oo, x.op, fun k hk => x.new k (by rw [← hw.size]; exact hk)⟩
theorem MS.rowP (x : MS w base B O h L A R m) (hw : Only w w1 h.pv) {S : List K} (hs : OwnP w1 base h.pv S) : MS w1 base B O h L A R { m with pu := S } := by
  have hne : ∀ k, O k ≠ 5 → w1.heap[k]? = w.heap[k]? := fun k hk => hw.block k (fun e => hk (x.op k e))
  exact ⟨(hne B (by rw [x.oB]; decide)).trans x.box, x.hB, x.oB, ownsRow_same x.code (fun k e => hne k (by rw [x.oc k e]; decide)), ownsRow_same x.args (fun k e => hne k (by rw [x.oa k e]; decide)), ownsRow_same x.reads (fun k e => hne k (by rw [x.or k e]; decide)),
   ownsRow_same x.stack (fun k e => hne k (by rw [x.os k e]; decide)), ownsRow_same x.locs (fun k e => hne k (by rw [x.ol k e]; decide)), ownsRow_same x.out (fun k e => hne k (by rw [x.oo k e]; decide)), hs,
   x.oc, x.oa, x.or, x.os, x.ol, x.oo, x.op, fun k hk => x.new k (by rw [← hw.size]; exact hk)⟩
end
/-- a list with others laid over it -/
def overL (xs : List Value) (o : Nat) : List Value → List Value
  | [] => xs
  | v :: r => overL (xs.set o v) (o + 1) r
theorem overL_eq : ∀ (vs xs : List Value) (o : Nat), o + vs.length = xs.length → overL xs o vs = xs.take o ++ vs
  | [], xs, o, h => by simp only [overL, List.append_nil]; rw [List.take_of_length_le (by simp at h; omega)]
  | v :: r, xs, o, h => by
    simp only [List.length_cons] at h
    rw [overL, overL_eq r (xs.set o v) (o + 1) (by rw [List.length_set]; omega)]
    have ho : o < xs.length := by omega
    rw [List.take_succ_eq_append_getElem (by rw [List.length_set]; exact ho), List.take_set_of_le (Nat.le_refl _)]
    simp
theorem owns_setCells {base e size g n cap : Nat} : ∀ (vs : List Value) (xs : List Value) (o : Nat) (w w0 : World), Only w0 w (.slice (some ⟨g, 0, none⟩) n cap) → w.ownsRow base e size (.slice (some ⟨g, 0, none⟩) n cap) n xs →
    (w.setCells g o vs).ownsRow base e size (.slice (some ⟨g, 0, none⟩) n cap) n (overL xs o vs) ∧ Only w0 (w.setCells g o vs) (.slice (some ⟨g, 0, none⟩) n cap)
  | [], _, _, _, _, ho, h => ⟨h, ho⟩
  | v :: r, xs, o, w, w0, ho, h => owns_setCells r (xs.set o v) (o + 1) (w.setCell ⟨g, o, none⟩ v) w0 (ho.set o v) (World.ownsRow.stored h o v).1
theorem cells_some {w : World} {base e size g n cap : Nat} {xs : List Value} (h : w.ownsRow base e size (.slice (some ⟨g, 0, none⟩) n cap) n xs) (j : Nat) (hj : j < n * size) : (w.cell? ⟨g, 0 + j, none⟩).isSome = true := by
  have hl := h.1
  rw [Nat.zero_add, World.ownsRow.cellAt h j hj, List.getElem?_eq_getElem (by rw [hl]; exact hj)]; rfl
/-- clear of a row whose elements are zs each -/
theorem run_clear_row (w : World) (base t e size n : Nat) (z : Value) (v : Value) (xs : List Value) (h : w.ownsRow base e size v n xs) (ht : Tryz.prog.underlying t = some (.slice e)) (hz : ∀ w, (zeroValue e).run Tryz.prog w = .ok z w) (h1 : ∀ i, i < n * size → ((Builtin.zeroCells z.cells n).toList.getD i undef).oneCell' = true) (hl : (Builtin.zeroCells z.cells n).toList.length = n * size) :
    ∃ w', (∀ ty, (Builtin.clear_ #[t] ty #[v]).run Tryz.prog w = .ok (.tuple #[]) w') ∧ w'.ownsRow base e size v n (Builtin.zeroCells z.cells n).toList ∧ Only w w' v := by
  have h0 := h
  obtain ⟨hxl, ⟨rfl, rfl⟩ | ⟨g, cap, cur, rfl, hb, hg, hnc, hcm, hcs, htk⟩⟩ := h
  · refine ⟨w, fun ty => by simp [Builtin.clear_, run_underlying ht], ?_, Only.refl _ _⟩
    rw [List.eq_nil_of_length_eq_zero (l := (Builtin.zeroCells z.cells 0).toList) (by rw [hl, Nat.zero_mul]), ← List.eq_nil_of_length_eq_zero (l := xs) (by rw [hxl, Nat.zero_mul])]
    exact h0
  · by_cases hn : n = 0
    · subst hn
      refine ⟨w, fun ty => by simp [Builtin.clear_, run_underlying ht], ?_, Only.refl _ _⟩
      rw [List.eq_nil_of_length_eq_zero (l := (Builtin.zeroCells z.cells 0).toList) (by rw [hl, Nat.zero_mul]), ← List.eq_nil_of_length_eq_zero (l := xs) (by rw [hxl, Nat.zero_mul])]
      exact h0
    · have hst := run_storeCells_cells (P := Tryz.prog) g 0 (Builtin.zeroCells z.cells n).toList 0 w (fun j hj => by rw [Nat.add_zero]; exact cells_some h0 j (by rw [← hl]; exact hj)) (fun j _ => frozen_of_row w g _ _ _ hg) (fun u hu => by
        obtain ⟨i, hi, rfl⟩ := List.mem_iff_getElem.1 hu
        have := h1 i (by rw [← hl]; exact hi)
        rw [List.getD_eq_getElem?_getD, List.getElem?_eq_getElem hi] at this
        exact this)
      simp only [Nat.add_zero] at hst
      obtain ⟨k1, k2⟩ := owns_setCells (Builtin.zeroCells z.cells n).toList xs 0 w w (Only.refl _ _) h0
      rw [overL_eq _ _ _ (by rw [hl, hxl, Nat.zero_add]), List.take_zero, List.nil_append] at k1
      obtain ⟨m, rfl⟩ : ∃ m, n = m + 1 := ⟨n - 1, by omega⟩
      exact ⟨_, fun ty => by simp [Builtin.clear_, run_underlying ht, hz, hst], k1, k2⟩
theorem zero64 (n : Nat) : (Builtin.zeroCells (Value.cells (.int .i64 0)) n).toList = (List.replicate n (0 : Int)).map iv := by
  simp only [Builtin.zeroCells, Value.cells]
  apply List.ext_getElem
  · simp
  · intro i h1 h2
    simp [Nat.mod_one]
theorem cks_replicate (n : Nat) : cks (List.replicate n (0, 0)) = (List.replicate (n * 2) (0 : Int)).map iv := by
  induction n with
  | zero => rfl
  | succ n ih => rw [List.replicate_succ, cks, ih, show (n + 1) * 2 = n * 2 + 1 + 1 by omega, List.replicate_succ, List.replicate_succ]; rfl
theorem zeroPut (n : Nat) : (Builtin.zeroCells (Value.cells (.agg #[.int .i64 0, .int .i64 0])) n).toList = cks (List.replicate n (0, 0)) := by
  rw [cks_replicate]
  simp only [Builtin.zeroCells, Value.cells]
  apply List.ext_getElem
  · simp
  · intro i h1 h2
    have : i % 2 = 0 ∨ i % 2 = 1 := by omega
    rcases this with h | h <;> simp [h]
theorem run_clear_64 (w : World) (base : Nat) (v : Value) (S : List Int) (h : Own64 w base v S) :
    ∃ w', (∀ ty, (Builtin.clear_ #[43] ty #[v]).run Tryz.prog w = .ok (.tuple #[]) w') ∧ Own64 w' base v (List.replicate S.length 0) ∧ Only w w' v := by
  obtain ⟨w', h1, h2, h3⟩ := run_clear_row w base 43 2 1 S.length (.int .i64 0) v _ h Tryz.underlying43 Tryz.zeroValue2 (fun i hi => by rw [zero64, List.getD_eq_getElem?_getD, List.getElem?_map, List.getElem?_replicate, if_pos (by omega)]; rfl) (by rw [zero64]; simp)
  refine ⟨w', h1, ?_, h3⟩
  rw [zero64] at h2
  show World.ownsRow _ _ _ _ _ (List.replicate S.length (0 : Int)).length _
  rw [List.length_replicate]; exact h2
theorem run_clear_puts (w : World) (base : Nat) (v : Value) (S : List K) (h : OwnP w base v S) :
    ∃ w', (∀ ty, (Builtin.clear_ #[54] ty #[v]).run Tryz.prog w = .ok (.tuple #[]) w') ∧ OwnP w' base v (List.replicate S.length (0, 0)) ∧ Only w w' v := by
  obtain ⟨w', h1, h2, h3⟩ := run_clear_row w base 54 136 2 S.length (.agg #[.int .i64 0, .int .i64 0]) v _ h Tryz.underlying54 Tryz.zeroValue136 (fun i hi => by rw [zeroPut, cks_replicate, List.getD_eq_getElem?_getD, List.getElem?_map, List.getElem?_replicate, if_pos (by omega)]; rfl) (by rw [zeroPut, cks_replicate]; simp)
  refine ⟨w', h1, ?_, h3⟩
  rw [zeroPut] at h2
  show World.ownsRow _ _ _ _ _ (List.replicate S.length ((0 : Int), (0 : Int))).length _
  rw [List.length_replicate]; exact h2
theorem cks_set (S : List K) (i : Nat) (k : K) : ((cks S).set (i * 2) (.int .i64 k.1)).set (i * 2 + 1) (.int .i64 k.2) = cks (S.set i k) := by
  induction S generalizing i with
  | nil => rfl
  | cons a S ih =>
    cases i with
    | zero => rfl
    | succ i =>
      rw [List.set_cons_succ, cks, cks, ← ih i, show (i + 1) * 2 = i * 2 + 1 + 1 by omega]
      rfl
theorem MS.putW {w : World} {base B : Nat} {O : Nat → Nat} {h : MH} {L : List K} {A : List Int} {R : List C} {m : M} (x : MS w base B O h L A R m) {g n cap : Nat} (hv : h.pv = .slice (some ⟨g, 0, none⟩) n cap) (i : Nat) (k : K) (q : Nat) :
    MS (((w.setCell ⟨g, i * 2, none⟩ (.int .i64 k.1)).setCell ⟨g, i * 2 + 1, none⟩ (.int .i64 k.2)).drewN q) base B O h L A R { m with pu := m.pu.set i k } := by
  have hp := x.puts
  have hn : n = m.pu.length := by
    rw [hv] at hp
    obtain ⟨_, ⟨h, _⟩ | ⟨g', cap', cur, e, _⟩⟩ := hp
    · cases h
    · cases e; rfl
  refine (x.rowP (w1 := ((w.setCell ⟨g, i * 2, none⟩ (.int .i64 k.1)).setCell ⟨g, i * 2 + 1, none⟩ (.int .i64 k.2)).drewN q) ?_ ?_)
  · rw [hv]
    have ho := ((Only.refl w (.slice (some ⟨g, 0, none⟩) n cap)).set (i * 2) (.int .i64 k.1)).set (i * 2 + 1) (.int .i64 k.2)
    exact ⟨ho.os, ho.tape, ho.output, ho.size, ho.block⟩
  · rw [hv, hn] at hp
    rw [hv, hn]
    have := (World.ownsRow.stored (World.ownsRow.stored hp (i * 2) (.int .i64 k.1)).1 (i * 2 + 1) (.int .i64 k.2)).1
    rw [cks_set] at this
    show World.ownsRow _ _ _ _ _ (m.pu.set i k).length _
    rw [List.length_set]; exact this
end Go.Proofs.YtcaibgbhebldmaaGreat
/-
  THE WALKS OF get, put, tell, fail, zero, Done.
-/
namespace Go.Proofs.YtcaibgbhebldmaaGreat
open Go.RowKit Go.Sort

section
variable {w w1 : World} {base B : Nat} {O : Nat → Nat} {h : MH} {L : List K} {A : List Int} {R : List C} {m : M}
theorem MSt.kept {Z : MZ} {F : Nat → Prop} (x : MSt w F B Z L A R m) (hb : Go.RowKit.Below w.heap.size w w1) : MSt w1 F B Z L A R m ∧ Fr F w w1 := by
  obtain ⟨O, h, x, hF, hz⟩ := x
  exact ⟨⟨O, h, x.kept hb, fun k hk => ⟨(hF k hk).1, Nat.lt_of_lt_of_le (hF k hk).2 hb.size⟩, hz⟩, Fr.ofBelow hb (fun k hk => (hF k hk).2)⟩
theorem MSt.alloc {Z : MZ} {F : Nat → Prop} (x : MSt w F B Z L A R m) (o : Obj) : MSt (w.alloc o) F B Z L A R m ∧ Fr F w (w.alloc o) := x.kept ((Below.refl _ _).alloc (Nat.le_refl _) _)
theorem MSt.drewN {Z : MZ} {F : Nat → Prop} (x : MSt w F B Z L A R m) (q : Nat) : MSt (w.drewN q) F B Z L A R m ∧ Fr F w (w.drewN q) := x.kept ((Grew.refl w).drewN q).below
/-- a new block joins F -/
theorem MSt.add {Z : MZ} {F : Nat → Prop} (x : MSt w F B Z L A R m) (o : Obj) : MSt (w.alloc o) (fun k => F k ∨ k = w.heap.size) B Z L A R m := by
  obtain ⟨O, h, x, hF, hz⟩ := x
  refine ⟨O, h, x.kept ((Below.refl _ _).alloc (Nat.le_refl _) _), fun k hk => ?_, hz⟩
  rcases hk with hk | hk
  · exact ⟨(hF k hk).1, by have := (hF k hk).2; simp; omega⟩
  · subst hk; exact ⟨x.new _ (Nat.le_refl _), by simp⟩
theorem MSt.mono {Z : MZ} {F G : Nat → Prop} (x : MSt w F B Z L A R m) (hg : ∀ k, G k → F k) : MSt w G B Z L A R m := by
  obtain ⟨O, h, x, hF, hz⟩ := x
  exact ⟨O, h, x, fun k hk => hF k (hg k hk), hz⟩
theorem OwnC.cell {w : World} {base g n cap : Nat} {R : List C} (h : OwnC w base (.slice (some ⟨g, 0, none⟩) n cap) R) (j : Nat) (hj : j < R.length) : w.cell? ⟨g, j * 2, none⟩ = some (.bool (rd R j).1) ∧ w.cell? ⟨g, j * 2 + 1, none⟩ = some (.int .i64 (rd R j).2) := by
  have hn : n = R.length := by
    obtain ⟨_, ⟨h, _⟩ | ⟨g', cap', cur, e, _⟩⟩ := h
    · cases h
    · cases e; rfl
  subst hn
  obtain ⟨e1, e2⟩ := ccs_at R j hj
  exact ⟨by rw [World.ownsRow.cellAt h (j * 2) (by omega)]; exact e1, by rw [World.ownsRow.cellAt h (j * 2 + 1) (by omega)]; exact e2⟩
theorem own_some {w : World} {base e size n : Nat} {v : Value} {xs : List Value} (h : w.ownsRow base e size v n xs) (hn : 0 < n) : ∃ g cap, v = .slice (some ⟨g, 0, none⟩) n cap ∧ n ≤ cap := by
  obtain ⟨_, ⟨rfl, rfl⟩ | ⟨g, cap, cur, rfl, hb, hg, hn, _⟩⟩ := h
  · omega
  · exact ⟨g, cap, rfl, hn⟩
end

theorem get_any (w : World) (F : Nat → Prop) (B : Nat) (Z : MZ) (L : List K) (A : List Int) (R : List C) (m : M) (i : Int) (hm : MSt w F B Z L A R m) (hl : m.st.length ≤ 1000) :
    Calls Tryz.prog 77 #[pm B, .int .i64 i] w fun e w' => e = .returned (.int .i64 (getN R i m).2) ∧ MSt w' F B Z L A R (getN R i m).1 ∧ Fr F w w' := by
  have HM : Hid (MSt w F B Z L A R m) := hm
  have HL : Hid (m.st.length ≤ 1000) := hl
  obtain ⟨O, h, hm, hF, rfl⟩ := hm
  have c2 : w.cell? ⟨B, 2, none⟩ = some h.rv := hm.cell 2
  by_cases h0 : 0 ≤ i ∧ i < (R.length : Int)
  · obtain ⟨j, rfl⟩ := Int.eq_ofNat_of_zero_le h0.1
    have hj : j < R.length := by omega
    obtain ⟨g, cap, hv, hcap⟩ := own_some hm.reads (by omega)
    have hr := hm.reads
    rw [hv] at hr c2
    obtain ⟨d0, d1⟩ := hr.cell j hj
    have HE : Hid (getN R (j : Int) m = (m.push (rdV (rd R j)), 0)) := by
      show getN R (j : Int) m = _
      rw [getN, if_pos h0]; rfl
    have hn0 : ¬ (j : Int) < 0 := by omega
    have hn1 : ¬ (R.length : Int) ≤ (j : Int) := by omega
    generalize R.length = n at *
    clear hm hF hr hl h0 hv
    cases hb : (rd R j).1 with
    | true =>
      rw [hb] at d0
      have HV : Hid (rdV (rd R j) = (rd R j).2) := by show rdV (rd R j) = _; simp [rdV, hb]
      generalize (rd R j).2 = z at *
      have HP := push_any (w.alloc (.cells #[.bool true, .int .i64 z] 25)) F B h.z L A R m z (HM.out.alloc _).1 HL.out
      have HB0 : Hid (Fr F w (w.alloc (.cells #[.bool true, .int .i64 z] 25))) := (HM.out.alloc _).2
      go_enter Tryz.func77, Tryz.ntmps77
      go_wp2_with fail
      refine HP.mono ?_
      rintro e w1 ⟨rfl, hp, hb1⟩
      have HP1 : Hid (MSt w1 F B h.z L A R (m.push z) ∧ Fr F w w1) := ⟨hp, HB0.out.trans hb1⟩
      clear hp hb1 HP
      go_wp2
      go_ret
      exact ⟨by rw [HE.out]; rfl, by rw [HE.out, HV.out]; exact HP1.out.1, HP1.out.2⟩
    | false =>
      rw [hb] at d0
      have HV : Hid (rdV (rd R j) = 0) := by show rdV (rd R j) = _; simp [rdV, hb]
      generalize (rd R j).2 = z at *
      have HP := push_any (w.alloc (.cells #[.bool false, .int .i64 z] 25)) F B h.z L A R m 0 (HM.out.alloc _).1 HL.out
      have HB0 : Hid (Fr F w (w.alloc (.cells #[.bool false, .int .i64 z] 25))) := (HM.out.alloc _).2
      go_enter Tryz.func77, Tryz.ntmps77
      go_wp2_with fail
      refine HP.mono ?_
      rintro e w1 ⟨rfl, hp, hb1⟩
      have HP1 : Hid (MSt w1 F B h.z L A R (m.push 0) ∧ Fr F w w1) := ⟨hp, HB0.out.trans hb1⟩
      clear hp hb1 HP
      go_wp2
      go_ret
      exact ⟨by rw [HE.out]; rfl, by rw [HE.out, HV.out]; exact HP1.out.1, HP1.out.2⟩
  · have HE : Hid (getN R i m = (m, 203)) := by
      show getN R i m = _
      rw [getN, if_neg h0]
    obtain ⟨ao, cap, hv, _⟩ := own_slice hm.reads
    rw [hv] at c2
    generalize R.length = n at *
    clear hm hF hl hv
    by_cases hn0 : i < 0
    · go_enter Tryz.func77, Tryz.ntmps77
      go_wp2
      go_ret
      exact ⟨by rw [HE.out]; rfl, by rw [HE.out]; exact HM.out, Fr.refl _ _⟩
    · have hn1 : (n : Int) ≤ i := by omega
      clear h0
      go_enter Tryz.func77, Tryz.ntmps77
      go_wp2
      go_ret
      exact ⟨by rw [HE.out]; rfl, by rw [HE.out]; exact HM.out, Fr.refl _ _⟩

theorem put_any (w : World) (F : Nat → Prop) (B : Nat) (Z : MZ) (L : List K) (A : List Int) (R : List C) (m : M) (i : Int) (k1 k2 : Int) (hm : MSt w F B Z L A R m) :
    Calls Tryz.prog 79 #[pm B, .int .i64 i, .agg #[.int .i64 k1, .int .i64 k2]] w fun e w' => e = .returned (.int .i64 (putN i (k1, k2) m).2) ∧ MSt w' F B Z L A R (putN i (k1, k2) m).1 ∧ Fr F w w' := by
  obtain ⟨O, h, hm, hF, rfl⟩ := hm
  have hbel : Go.RowKit.Below w.heap.size w (w.alloc (.cells #[.int .i64 k1, .int .i64 k2] 136)) := (Below.refl _ _).alloc (Nat.le_refl _) _
  have HM : Hid (MS (w.alloc (.cells #[.int .i64 k1, .int .i64 k2] 136)) 0 B O h L A R m) := hm.kept hbel
  have HB0 : Hid (Fr F w (w.alloc (.cells #[.int .i64 k1, .int .i64 k2] 136))) := Fr.ofBelow hbel (fun k hk => (hF k hk).2)
  have HF : Hid (Apt (w.alloc (.cells #[.int .i64 k1, .int .i64 k2] 136)) F O) := fun k hk => ⟨(hF k hk).1, by have := (hF k hk).2; simp; omega⟩
  have c7 : (w.alloc (.cells #[.int .i64 k1, .int .i64 k2] 136)).cell? ⟨B, 7, none⟩ = some h.pv := HM.out.cell 7
  by_cases h0 : 0 ≤ i ∧ i < (m.pu.length : Int)
  · obtain ⟨j, rfl⟩ := Int.eq_ofNat_of_zero_le h0.1
    obtain ⟨g, cap, hv, hcap⟩ := own_some hm.puts (by omega)
    have hr := HM.out.puts
    rw [hv] at hr c7
    have q0 := World.ownsRow.cellAt hr (j * 2) (by omega)
    have q1 := World.ownsRow.cellAt hr (j * 2 + 1) (by omega)
    obtain ⟨e0, e1⟩ := cks_at m.pu j (by omega)
    rw [e0] at q0
    rw [e1] at q1
    have f0 := World.ownsRow.frozenAt hr (j * 2)
    have f1 := World.ownsRow.frozenAt hr (j * 2 + 1)
    have HG : Hid (∀ q, MS ((((w.alloc (.cells #[.int .i64 k1, .int .i64 k2] 136)).setCell ⟨g, j * 2, none⟩ (.int .i64 k1)).setCell ⟨g, j * 2 + 1, none⟩ (.int .i64 k2)).drewN q) 0 B O h L A R { m with pu := m.pu.set j (k1, k2) }) := fun q => HM.out.putW hv j (k1, k2) q
    have HGb : Hid (¬ F g) := fun hk => by have := (hF g hk).1; rw [hm.op g (by rw [hv]; rfl)] at this; cases this
    have HE : Hid (putN (j : Int) (k1, k2) m = ({ m with pu := m.pu.set j (k1, k2) }, 0)) := by
      show putN (j : Int) (k1, k2) m = _
      rw [putN, if_pos h0]; rfl
    have hn0 : ¬ (j : Int) < 0 := by omega
    have hn1 : ¬ (m.pu.length : Int) ≤ (j : Int) := by omega
    generalize (kd m.pu j).1 = z1 at *
    generalize (kd m.pu j).2 = z2 at *
    generalize m.pu.length = n at *
    clear hm hF hr h0 hv e0 e1 hbel
    go_enter Tryz.func79, Tryz.ntmps79
    go_wp2_with fail
    go_region
    all_goals (go_wp2; go_ret; exact ⟨by rw [HE.out]; rfl, by rw [HE.out]; exact ⟨O, h, HG.out 1, fun k hk => ⟨(HF.out k hk).1, by have := (HF.out k hk).2; simpa using this⟩, rfl⟩, HB0.out.trans (((Fr.refl F _).set _ _ HGb.out).set _ _ HGb.out).drew⟩)
  · have HE : Hid (putN i (k1, k2) m = (m, 203)) := by
      show putN i (k1, k2) m = _
      rw [putN, if_neg h0]
    obtain ⟨ao, cap, hv, _⟩ := own_slice hm.puts
    rw [hv] at c7
    generalize m.pu.length = n at *
    clear hm hF hv hbel
    by_cases hn0 : i < 0
    · go_enter Tryz.func79, Tryz.ntmps79
      go_wp2
      go_ret
      exact ⟨by rw [HE.out]; rfl, by rw [HE.out]; exact ⟨O, h, HM.out, HF.out, rfl⟩, HB0.out⟩
    · have hn1 : (n : Int) ≤ i := by omega
      clear h0
      go_enter Tryz.func79, Tryz.ntmps79
      go_wp2
      go_ret
      exact ⟨by rw [HE.out]; rfl, by rw [HE.out]; exact ⟨O, h, HM.out, HF.out, rfl⟩, HB0.out⟩

theorem tell_any (w : World) (F : Nat → Prop) (B : Nat) (Z : MZ) (L : List K) (A : List Int) (R : List C) (m : M) (x : Int) (hm : MSt w F B Z L A R m) (hl : m.ou.length ≤ 1000) :
    Calls Tryz.prog 80 #[pm B, .int .i64 x] w fun e w' => e = .returned (.int .i64 (tellN x m).2) ∧ MSt w' F B Z L A R (tellN x m).1 ∧ Fr F w w' := by
  have HM0 : Hid (MSt w F B Z L A R m) := hm
  obtain ⟨O, h, hm, hF, rfl⟩ := hm
  have c6 : w.cell? ⟨B, 6, none⟩ = some h.ov := hm.cell 6
  obtain ⟨ao, cap, hv, _⟩ := own_slice hm.out
  by_cases h0 : m.ou.length = 16
  · have HE : Hid (tellN x m = (m, 204)) := by
      show tellN x m = _
      rw [tellN, if_pos h0]
    rw [hv, h0] at c6
    clear hm hF hv h0 hl
    go_enter Tryz.func80, Tryz.ntmps80
    go_wp2
    go_ret
    exact ⟨by rw [HE.out]; rfl, by rw [HE.out]; exact HM0.out, Fr.refl _ _⟩
  · have HE : Hid (tellN x m = ({ m with ou := m.ou ++ [x] }, 0)) := by
      show tellN x m = _
      rw [tellN, if_neg h0]
    have hbel : Go.RowKit.Below w.heap.size w (w.alloc (.cells #[.int .i64 x] 2)) := (Below.refl _ _).alloc (Nat.le_refl _) _
    have HM : Hid (MS (w.alloc (.cells #[.int .i64 x] 2)) 0 B O h L A R m) := hm.kept hbel
    have HB0 : Hid (Fr F w (w.alloc (.cells #[.int .i64 x] 2))) := Fr.ofBelow hbel (fun k hk => (hF k hk).2)
    have HF : Hid (Apt (w.alloc (.cells #[.int .i64 x] 2)) F O) := fun k hk => ⟨(hF k hk).1, by have := (hF k hk).2; simp; omega⟩
    have HL : Hid (m.ou.length ≤ 1000) := hl
    have HV : Hid (.slice ao m.ou.length cap = h.ov) := hv.symm
    rw [hv] at c6
    have h1 : ((m.ou.length : Int) == 16) = false := by simp; omega
    have HS : Hid (Own64 (w.alloc (.cells #[.int .i64 x] 2)) 0 (.slice ao m.ou.length cap) m.ou) := by rw [HV.out]; exact HM.out.out
    obtain ⟨n, hn⟩ : ∃ n, n = m.ou.length := ⟨_, rfl⟩
    have HN : Hid (n = m.ou.length) := hn
    rw [← hn] at c6 h1 HV HS
    clear hm hF hl hbel h0 hv hn
    go_enter Tryz.func80, Tryz.ntmps80
    go_wp2_with (at_builtin; refine wpList_append_64 rfl _ _ rfl 0 (.slice ao n cap) m.ou rfl HS.out _ x rfl (cell_new64 _ _) (by have := HL.out; omega) HM.out.size ?_; intro v' w' h1 h2 h3; rw [HV.out] at h2 h3; obtain ⟨ao', n', cap', rfl, c6', f6, HG'⟩ := HM.out.outed HF.out h1 h2 h3; clear h1 h2 h3)
    go_ret
    exact ⟨by rw [HE.out]; rfl, by rw [HE.out]; exact HG'.out.1, HB0.out.trans HG'.out.2⟩

theorem done_any (w : World) (F : Nat → Prop) (B : Nat) (Z : MZ) (L : List K) (A : List Int) (R : List C) (m : M) (hm : MSt w F B Z L A R m) :
    Calls Tryz.prog 61 #[pm B] w fun e w' => e = .returned (.bool (doneB L.length m)) ∧ MSt w' F B Z L A R m ∧ Fr F w w' := by
  have HM : Hid (∀ q, MSt (w.drewN q) F B Z L A R m) := fun q => (hm.drewN q).1
  obtain ⟨O, h, hm, hF, rfl⟩ := hm
  have c0 : w.cell? ⟨B, 0, none⟩ = some h.cv := hm.cell 0
  have c3 : w.cell? ⟨B, 3, none⟩ = some (.int .i64 (m.at_ : Int)) := hm.cell 3
  have c9 : w.cell? ⟨B, 9, none⟩ = some (.bool m.ended) := hm.cell 9
  obtain ⟨ao, cap, hv, _⟩ := own_slice hm.code
  rw [hv] at c0
  have HB : Hid (∀ q, Fr F w (w.drewN q)) := fun q => (Fr.ofBelow ((Grew.refl w).drewN q).below (fun k hk => (hF k hk).2))
  have HD : Hid (doneB L.length m = (m.ended || decide ((m.at_ : Int) = (L.length : Int)))) := by
    show doneB L.length m = _
    unfold doneB; congr 1; simp only [decide_eq_decide]; omega
  rw [HD.out]
  generalize L.length = n at *
  clear hm hF hv HD
  cases he : m.ended with
  | true =>
    rw [he] at c9
    go_enter Tryz.func61, Tryz.ntmps61
    go_wp2_with fail
    go_quiet (fail)
    go_wp2
    go_ret
    exact ⟨rfl, HM.out _, HB.out _⟩
  | false =>
    rw [he] at c9
    go_enter Tryz.func61, Tryz.ntmps61
    go_wp2_with fail
    go_quiet (fail)
    go_wp2
    go_ret
    exact ⟨rfl, HM.out _, HB.out _⟩

theorem fail_any (w : World) (F : Nat → Prop) (B : Nat) (Z : MZ) (L : List K) (A : List Int) (R : List C) (m : M) (f : Int) (hm : MSt w F B Z L A R m) :
    Calls Tryz.prog 64 #[pm B, .int .i64 f] w fun e w' => e = .returned (.tuple #[]) ∧ MSt w' F B Z L A R (failN f m) ∧ Fr F w w' := by
  obtain ⟨O, h, hm, hF, rfl⟩ := hm
  have hBF : ¬ F B := fun hk => by have := (hF B hk).1; rw [hm.oB] at this; cases this
  have h1 := hm.put 9 (.bool true) { m with ended := true } rfl rfl rfl rfl rfl
  have h2 := h1.put 10 (.int .i64 f) { m with ended := true, fault := f } rfl rfl rfl rfl rfl
  have h3 := h2.store 4 (.slice none 0 0) { h with sv := .slice none 0 0 } { m with ended := true, fault := f, st := [] } rfl rfl rfl rfl rfl rfl (World.ownsRow_nil _ _ _ _) (fun g e => by cases e) h2.out h2.oo rfl rfl
  have h4 := h3.store 6 (.slice none 0 0) { h with sv := .slice none 0 0, ov := .slice none 0 0 } { m with ended := true, fault := f, st := [], ou := [] } rfl rfl rfl rfl rfl rfl h3.stack h3.os (World.ownsRow_nil _ _ _ _) (fun g e => by cases e) rfl rfl
  have HB4 : Hid (Fr F w ((((w.setCell ⟨B, 9, none⟩ (.bool true)).setCell ⟨B, 10, none⟩ (.int .i64 f)).setCell ⟨B, 4, none⟩ (.slice none 0 0)).setCell ⟨B, 6, none⟩ (.slice none 0 0))) :=
    ((((Fr.refl F w).set _ _ hBF).set _ _ hBF).set _ _ hBF).set _ _ hBF
  obtain ⟨w5, r5, o5, n5⟩ := run_clear_64 _ 0 h.lv _ h4.locs
  have h5 := h4.rowL n5 o5
  obtain ⟨w6, r6, o6, n6⟩ := run_clear_puts _ 0 h.pv _ h5.puts
  have h6 := h5.rowP n6 o6
  have HM : Hid (MSt w6 F B h.z L A R (failN f m)) := ⟨O, _, h6, fun k hk => ⟨(hF k hk).1, by rw [n6.size, n5.size]; have := (hF k hk).2; simpa using this⟩, rfl⟩
  have HB : Hid (Fr F w w6) := (HB4.out.trans ⟨n5.os, n5.tape, n5.output, Nat.le_of_eq n5.size.symm, fun k hk => n5.block k (fun e => by have := (hF k hk).1; rw [hm.ol k e] at this; cases this)⟩).trans ⟨n6.os, n6.tape, n6.output, Nat.le_of_eq n6.size.symm, fun k hk => n6.block k (fun e => by have := (hF k hk).1; rw [hm.op k e] at this; cases this)⟩
  have c5 : ((((w.setCell ⟨B, 9, none⟩ (.bool true)).setCell ⟨B, 10, none⟩ (.int .i64 f)).setCell ⟨B, 4, none⟩ (.slice none 0 0)).setCell ⟨B, 6, none⟩ (.slice none 0 0)).cell? ⟨B, 5, none⟩ = some h.lv := h4.cell 5
  have c7 : w5.cell? ⟨B, 7, none⟩ = some h.pv := h5.cell 7
  have x9 : w.cell? ⟨B, 9, none⟩ = some (.bool m.ended) := hm.cell 9
  have x10 : w.cell? ⟨B, 10, none⟩ = some (.int .i64 m.fault) := hm.cell 10
  have x4 : w.cell? ⟨B, 4, none⟩ = some h.sv := hm.cell 4
  have x6 : w.cell? ⟨B, 6, none⟩ = some h.ov := hm.cell 6
  have x5 : w.cell? ⟨B, 5, none⟩ = some h.lv := hm.cell 5
  have f9 := hm.frozen 9
  have f10 := hm.frozen 10
  have f4 := hm.frozen 4
  have f6 := hm.frozen 6
  obtain ⟨sao, scap, hsv, _⟩ := own_slice hm.stack
  obtain ⟨oao, ocap, hov, _⟩ := own_slice hm.out
  rw [hsv] at x4
  rw [hov] at x6
  clear h1 h2 h3 h4 h5 h6 HB4 o5 n5 o6 n6 hm hF hBF hsv hov
  go_enter Tryz.func64, Tryz.ntmps64
  go_wp2
  go_end0
  exact ⟨rfl, HM.out, HB.out⟩

/-- zero: where an IZero goes -/
theorem zero_any (w : World) (F : Nat → Prop) (B : Nat) (Z : MZ) (L : List K) (A : List Int) (R : List C) (m : M) (op a : Int) (hm : MSt w F B Z L A R m) (h0 : 0 < m.st.length) (hl : m.st.length ≤ 1000) (ha : m.at_ ≤ 1000) :
    Calls Tryz.prog 62 #[pm B, .agg #[.int .i64 op, .int .i64 a]] w fun e w' => e = .returned (.int .i64 (if m.top = 0 then a else (m.at_ : Int) + 1)) ∧ MSt w' F B Z L A R m.pop ∧ Fr F w w' := by
  have HP := pop_any (w.alloc (.cells #[.int .i64 op, .int .i64 a] 102)) _ B Z L A R m (hm.add _) h0 hl
  have HB0 : Hid (Fr F w (w.alloc (.cells #[.int .i64 op, .int .i64 a] 102))) := (hm.alloc _).2
  have HBx : Hid (Box (w.alloc (.cells #[.int .i64 op, .int .i64 a] 102)) w.heap.size op a) := Box.new rfl
  clear hm h0 hl
  go_enter Tryz.func62, Tryz.ntmps62
  go_wp2_with fail
  refine HP.mono ?_
  rintro e w1 ⟨rfl, hp, hb1⟩
  have HR : Hid (MSt w1 F B Z L A R m.pop ∧ Fr F w w1) := ⟨hp.mono (fun k hk => .inl hk), HB0.out.trans (hb1.mono (fun k hk => .inl hk))⟩
  have d1 : w1.cell? ⟨w.heap.size, 1, none⟩ = some (.int .i64 a) := hb1.cell (.inr rfl) HBx.out.2
  have c3 : w1.cell? ⟨B, 3, none⟩ = some (.int .i64 (m.at_ : Int)) := by obtain ⟨O, h, x, _⟩ := hp; exact x.cell 3
  clear hp hb1 HP
  by_cases ht : m.top = 0
  · rw [ht]
    go_wp2
    go_ret
    exact ⟨rfl, HR.out⟩
  · have ht' : (m.top == 0) = false := by simpa using ht
    go_wp2
    go_ret
    exact ⟨rfl, HR.out⟩
end Go.Proofs.YtcaibgbhebldmaaGreat
