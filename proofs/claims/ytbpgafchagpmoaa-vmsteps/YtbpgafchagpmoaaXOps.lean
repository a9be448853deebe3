/-
  THE WALKS OF A MACHINE's SMALL METHODS.
-/
import Derived.Test.YtbpgafchagpmoaaXMem
import Derived.Test.YtbpgafchagpmoaaXPair
import Derived.Laws.AppendOwnNone
import Derived.Maps.AppendAt
namespace Go.Proofs.Ytbpgafchagpmoaa
open Go.RowKit Go.Sort

theorem info64 : (Try.prog.info? 2).map (fun i => (i.zero, i.size, i.bytes)) = some (some (.int .i64 0), 1, 8) := by kernel_rfl
theorem cell_new64 (w : World) (x : Int) : (w.alloc (.cells #[.int .i64 x] 2)).cell? ⟨w.heap.size, 0, none⟩ = some (.int .i64 x) := by
  rw [World.cell?, heap_alloc_new (w := w) (.cells #[.int .i64 x] 2) w.heap.size rfl]; rfl
/-- append of one number -/
theorem run_append_64 {w : World} (ty : TypeId) (base : Nat) (v : Value) (S : List Int) (hown : Own64 w base v S) (B : Nat) (x : Int) (hB : w.cell? ⟨B, 0, none⟩ = some (.int .i64 x)) (hlen : S.length + 1 ≤ 1000000) (hbase : base ≤ w.heap.size) :
    ∃ v' w', (Builtin.append_ #[25, 25] ty #[v, .slice (some ⟨B, 0, none⟩) 1 1]).run Try.prog w = .ok v' w' ∧ Own64 w' base v' (S ++ [x]) ∧ w.grownBy w' v.ownBlock ∧ (v'.ownBlock = v.ownBlock ∨ v'.ownBlock = some w.heap.size) := by
  obtain ⟨i0, hi, hz0, hz1, hz2⟩ := info_parts info64
  obtain ⟨v', w', hr, h2, h3, _, h5⟩ := run_append_own_at (P := Try.prog) w base 25 ty 2 i0 (.int .i64 0) 1 8 Try.underlying25 hi hz0 hz1 hz2 rfl (by decide) v S.length (S.map iv) hown ⟨B, 0, none⟩ 1 1 [.int .i64 x] (by simp)
    (by
      intro j u hu
      match j, hu with
      | 0, hu => simp at hu; rw [addr_add, ← hu]; exact hB
      | j + 1, hu => simp at hu) (by intro u hu; simp at hu; rw [hu]; rfl) (by unfold maxLen; omega) (by omega) hbase
  refine ⟨v', w', hr, ?_, h3, h5⟩
  show World.ownsRow _ _ _ _ _ (S ++ [x]).length ((S ++ [x]).map iv)
  rw [List.length_append, List.map_append]
  exact h2
theorem wpList_append_64 {w : World} {ops : Array Oper} {rest : List Oper} {o : Oper} {a : Act} {Q : Exit → Act → World → Prop} (hgd : o.guard = none) (s x : Operand)
    (ho : o.op = .call { callee := .builtin .append, args := #[s, x], argTypes := #[25, 25] }) (base : Nat) (v : Value) (S : List Int) (hs : a.eval s = v) (hown : Own64 w base v S)
    (B : Nat) (z : Int) (hx : a.eval x = .slice (some ⟨B, 0, none⟩) 1 1) (hB : w.cell? ⟨B, 0, none⟩ = some (.int .i64 z)) (hlen : S.length + 1 ≤ 1000000) (hbase : base ≤ w.heap.size)
    (h : ∀ v' w', Own64 w' base v' (S ++ [z]) → w.grownBy w' v.ownBlock → (v'.ownBlock = v.ownBlock ∨ v'.ownBlock = some w.heap.size) → wpList Try.prog ops Q rest (a.put o.dst v') w') : wpList Try.prog ops Q (o :: rest) a w := by
  obtain ⟨v', w', hr, h2, h3, h4⟩ := run_append_64 o.type base v S hown B z hB hlen hbase
  refine wpList_plain hgd fun K hK' => ?_
  unfold Oper.wp
  simp [execOp, ho, resolve, invoke, builtin, hs, hx, hr, Result.andThen]
  exact hK' _ _ (h v' w' h2 h3 h4)

abbrev pm (B : Nat) : Value := .pointer (some ⟨B, 0, none⟩)
theorem MS.pushed {w w' : World} {base B : Nat} {O : Nat → Nat} {h : MH} {L : List K} {A : List Int} {R : List C} {m : M} {F : Nat → Prop} (hm : MS w base B O h L A R m) (hF : Apt w F O) {v' : Value} {x : Int} (h1 : Own64 w' base v' (m.st.reverse ++ [x])) (h2 : w.grownBy w' h.sv.ownBlock) (h3 : v'.ownBlock = h.sv.ownBlock ∨ v'.ownBlock = some w.heap.size) :
    ∃ ao n cap, v' = .slice ao n cap ∧ w'.cell? ⟨B, 4, none⟩ = some h.sv ∧ w'.frozen? ⟨B, 4, none⟩ = false ∧ Hid (MSt (w'.setCell ⟨B, 4, none⟩ v') F B h.z L A R (m.push x) ∧ Fr F w (w'.setCell ⟨B, 4, none⟩ v')) := by
  have hbk : w'.heap[B]? = some (.cells (boxOf h m) 81 (0, 0)) := (h2.block B hm.lt (fun e => by have := hm.os B e.symm; rw [hm.oB] at this; cases this)).trans hm.box
  obtain ⟨ao, cap, e, _⟩ := own_slice h1
  exact ⟨ao, _, cap, e, by rw [World.cell?, hbk]; rfl, frozen_of_row w' B 4 _ _ hbk, hm.stacked (S := x :: m.st) h2 (by rw [List.reverse_cons]; exact h1) h3 hF⟩
theorem MS.outed {w w' : World} {base B : Nat} {O : Nat → Nat} {h : MH} {L : List K} {A : List Int} {R : List C} {m : M} {F : Nat → Prop} (hm : MS w base B O h L A R m) (hF : Apt w F O) {v' : Value} {x : Int} (h1 : Own64 w' base v' (m.ou ++ [x])) (h2 : w.grownBy w' h.ov.ownBlock) (h3 : v'.ownBlock = h.ov.ownBlock ∨ v'.ownBlock = some w.heap.size) :
    ∃ ao n cap, v' = .slice ao n cap ∧ w'.cell? ⟨B, 6, none⟩ = some h.ov ∧ w'.frozen? ⟨B, 6, none⟩ = false ∧ Hid (MSt (w'.setCell ⟨B, 6, none⟩ v') F B h.z L A R { m with ou := m.ou ++ [x] } ∧ Fr F w (w'.setCell ⟨B, 6, none⟩ v')) := by
  have hbk : w'.heap[B]? = some (.cells (boxOf h m) 81 (0, 0)) := (h2.block B hm.lt (fun e => by have := hm.oo B e.symm; rw [hm.oB] at this; cases this)).trans hm.box
  obtain ⟨ao, cap, e, _⟩ := own_slice h1
  exact ⟨ao, _, cap, e, by rw [World.cell?, hbk]; rfl, frozen_of_row w' B 6 _ _ hbk, hm.told h2 h1 h3 hF⟩
theorem push_any (w : World) (F : Nat → Prop) (B : Nat) (Z : MZ) (L : List K) (A : List Int) (R : List C) (m : M) (x : Int) (hm : MSt w F B Z L A R m) (hl : m.st.length ≤ 1000) :
    Calls Try.prog 52 #[pm B, .int .i64 x] w fun e w' => e = .returned (.tuple #[]) ∧ MSt w' F B Z L A R (m.push x) ∧ Fr F w w' := by
  obtain ⟨O, h, hm, hF, rfl⟩ := hm
  have hm' : MS (w.alloc (.cells #[.int .i64 x] 2)) 0 B O h L A R m := hm.kept ((Below.refl _ _).alloc (Nat.le_refl _) _)
  have HB0 : Hid (Fr F w (w.alloc (.cells #[.int .i64 x] 2))) := Fr.ofBelow ((Below.refl _ _).alloc (Nat.le_refl _) _) (fun k hk => (hF k hk).2)
  have HF : Hid (Apt (w.alloc (.cells #[.int .i64 x] 2)) F O) := fun k hk => ⟨(hF k hk).1, by have := (hF k hk).2; simp; omega⟩
  have HM : Hid (MS (w.alloc (.cells #[.int .i64 x] 2)) 0 B O h L A R m) := hm'
  have c4 : w.cell? ⟨B, 4, none⟩ = some h.sv := hm.cell 4
  have HL : Hid (m.st.length ≤ 1000) := hl
  clear hm hm' hl hF
  go_enter Try.func52, Try.ntmps52
  go_wp2_with (at_builtin; refine wpList_append_64 rfl _ _ rfl 0 h.sv m.st.reverse rfl HM.out.stack _ x rfl (cell_new64 _ _) (by have := HL.out; simp; omega) HM.out.size ?_; intro v' w' h1 h2 h3; obtain ⟨ao, n, cap, rfl, c4', f4, HG'⟩ := HM.out.pushed HF.out h1 h2 h3; clear h1 h2 h3)
  go_end0
  exact ⟨rfl, HG'.out.1, HB0.out.trans HG'.out.2⟩

theorem pop_any (w : World) (F : Nat → Prop) (B : Nat) (Z : MZ) (L : List K) (A : List Int) (R : List C) (m : M) (hm : MSt w F B Z L A R m) (h0 : 0 < m.st.length) (hl : m.st.length ≤ 1000) :
    Calls Try.prog 51 #[pm B] w fun e w' => e = .returned (.int .i64 m.top) ∧ MSt w' F B Z L A R m.pop ∧ Fr F w w' := by
  obtain ⟨O, h, hm, hF, rfl⟩ := hm
  obtain ⟨at_, st, lo, ou, pu, en, fa, us, sp⟩ := m
  cases st with
  | nil => simp at h0
  | cons x st =>
    simp only [List.length_cons] at hl
    have hst := hm.stack
    simp only [List.reverse_cons] at hst
    obtain ⟨g, cap, hv, hcap⟩ := hst.shape (by simp)
    rw [hv] at hst
    have cx := hst.cell st.length (by simp)
    have e1 : (st.reverse ++ [x]).getD st.length 0 = x := by simp [List.getD_eq_getElem?_getD]
    rw [e1] at cx
    have hn : (st.reverse ++ [x]).length = st.length + 1 := by simp
    rw [hn] at hv hcap
    have hcut := hst.cut
    rw [List.length_reverse] at hcut
    have c4 : w.cell? ⟨B, 4, none⟩ = some h.sv := hm.cell 4
    have f4 := hm.frozen 4
    have HG : Hid (MS (w.setCell ⟨B, 4, none⟩ (.slice (some ⟨g, 0, none⟩) st.length cap)) 0 B O { h with sv := .slice (some ⟨g, 0, none⟩) st.length cap } L A R ⟨at_, st, lo, ou, pu, en, fa, us, sp⟩) :=
      hm.store 4 _ _ _ rfl rfl rfl rfl rfl rfl hcut (fun k e => hm.os k (by rw [hv]; exact e)) hm.out hm.oo rfl rfl
    have HB : Hid (Fr F w (w.setCell ⟨B, 4, none⟩ (.slice (some ⟨g, 0, none⟩) st.length cap))) := (Fr.refl F w).set _ _ (fun hk => by have := (hF B hk).1; rw [hm.oB] at this; cases this)
    have HF : Hid (Apt (w.setCell ⟨B, 4, none⟩ (.slice (some ⟨g, 0, none⟩) st.length cap)) F O) := fun k hk => ⟨(hF k hk).1, by have := (hF k hk).2; simpa using this⟩
    rw [hv] at c4
    generalize st.length = n at *
    clear hm hF hst e1 hn hcut
    go_enter Try.func51, Try.ntmps51
    go_wp2
    go_ret
    exact ⟨rfl, ⟨O, _, HG.out, HF.out, rfl⟩, HB.out⟩
end Go.Proofs.Ytbpgafchagpmoaa
