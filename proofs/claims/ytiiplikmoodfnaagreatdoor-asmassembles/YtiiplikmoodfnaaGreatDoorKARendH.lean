import Derived.Test.YtiiplikmoodfnaaGreatDoorKARpure
import Derived.Test.YtiiplikmoodfnaaGreatDoorKLRefD
/-
  THE DOCUMENT's end: the state.
-/
namespace Go.Proofs.YtiiplikmoodfnaaGreatDoor
open Go.RowKit Go.Sort

theorem infoPc : (Tryz.prog.info? 72).map (fun i => (i.zero, i.size, i.bytes)) = some (some (.agg #[.string ⟨#[]⟩, .int .i64 0, .int .i64 0, .int .i64 0, .int .i64 0, .slice none 0 0]), 6, 72) := by kernel_rfl
section
variable {W W' : World} {M B : Nat} {a : As} {Qs : List Pr} {nl : List (Nat × Nat)} {Lo : List K} {r : Rv}
/-- the open procedure's code turns at one place -/
theorem DS.fix (h : DS W M B a Qs nl Lo r) (ho : a.opn = true) {cg cl cc j : Nat} {t : Int} (hao : r.code = .slice (some ⟨cg, 0, none⟩) cl cc) (hj : j < Lo.length) (ht : In64 t) : DS (W.setCell ⟨cg, j * 2 + 1, none⟩ (.int .i64 t)) M B (setL a (Lo.set j ((kd Lo j).1, t))) Qs nl (Lo.set j ((kd Lo j).1, t)) r := by
  obtain ⟨c1, c2⟩ := h.oc ho
  have hcb : r.code.ownBlock = some cg := by rw [hao]; rfl
  obtain ⟨cur, hc⟩ := own_blk c1 hcb
  have hcB : cg ≠ B := h.rx.ne hc (by decide)
  have f : FrB B r.code.ownBlock W (W.setCell ⟨cg, j * 2 + 1, none⟩ (.int .i64 t)) := ⟨rfl, rfl, rfl, by simp, fun k _ _ h2 => heap_setCell_other _ _ _ _ (fun e => h2 (by rw [hcb]; exact congrArg some e.symm))⟩
  have hx : RX (W.setCell ⟨cg, j * 2 + 1, none⟩ (.int .i64 t)) B r := (heap_setCell_other _ _ _ _ hcB.symm).trans h.rx
  have hm : (W.setCell ⟨cg, j * 2 + 1, none⟩ (.int .i64 t)).ownsRow M 76 2 r.code (Lo.set j ((kd Lo j).1, t)).length (cks (Lo.set j ((kd Lo j).1, t))) := by
    rw [List.length_set, ← cks_setA Lo j t hj]
    obtain ⟨o9, n9, hv9, _⟩ := own_slice c1
    have e9 := hao.symm.trans hv9
    simp only [Value.slice.injEq] at e9
    obtain ⟨rfl, rfl, rfl⟩ := e9
    rw [hao] at c1 ⊢
    exact own_set c1 _
  refine h.recode (v' := r.code) ho hx hm f (.inl rfl) (fun k hk => ?_)
  obtain ⟨i, hi, rfl⟩ := List.getElem_of_mem hk
  have hi' : i < Lo.length := by simpa using hi
  rw [List.getElem_set]
  split
  · exact ⟨((h.oko ho).2.1 _ (kd_mem hj)).1, ht⟩
  · exact (h.oko ho).2.1 _ (List.getElem_mem hi')
/-- it is closed: its procedure lies among the others -/
theorem DS.shut (h : DS W M B a Qs nl Lo r) (ho : a.opn = true) {v' : Value} {co : Option Addr} {cc : Nat} (hao : r.code = .slice co Lo.length cc) (hx : RX W' B { r with opn := false, lib := v' }) (hm : OwnP W' M v' (Qs ++ [(⟨S r.name, r.p, co, Lo.length, cc, Lo⟩ : Pr)])) (f : FrB B r.lib.ownBlock W W') :
    DS W' M B { a with opn := false, names := nl } (Qs ++ [(⟨S r.name, r.p, co, Lo.length, cc, Lo⟩ : Pr)]) nl [] { r with opn := false, lib := v' } := by
  obtain ⟨c1, c2⟩ := h.oc ho
  have hcd : cdV (⟨S r.name, r.p, co, Lo.length, cc, Lo⟩ : Pr) = r.code := hao.symm
  refine ⟨hx, rfl, h.bg, hm, ?_, fun x hx => ?_, ?_, FrB.rowT h.lib f h.rx h.nms (by decide) (by decide), by simp, FrB.rowT h.lib f h.rx h.mks (by decide) (by decide), FrB.rowT h.lib f h.rx h.us (by decide) (by decide), fun e => (by cases e), fun x hx => ?_, fun e => (by cases e), ⟨h.bm.1, Nat.le_trans h.bm.2 f.size⟩, fun g hg => ⟨(h.cv g hg).1, Nat.lt_of_lt_of_le (h.cv g hg).2 (f.size)⟩⟩
  · show a.lib = _
    rw [h.eq, if_pos ho]
    simp [ppOf, S_data]
  · rcases List.mem_append.1 hx with hx | hx
    · exact ⟨(h.code x hx).1, FrB.rowT h.lib f h.rx (h.code x hx).2 (by decide) (by decide)⟩
    · simp only [List.mem_singleton] at hx
      subst hx
      refine ⟨rfl, ?_⟩
      rw [hcd]
      exact FrB.rowT h.lib f h.rx c1 (by decide) (by decide)
  · refine List.pairwise_append.2 ⟨h.ap, List.pairwise_singleton _ _, fun x hx y hy g e1 => ?_⟩
    simp only [List.mem_singleton] at hy
    subst hy
    rw [hcd]
    exact c2 x hx g e1
  · rcases List.mem_append.1 hx with hx | hx
    · exact h.ok x hx
    · simp only [List.mem_singleton] at hx
      subst hx
      exact ⟨(h.oko ho).1, (h.oko ho).2.1, by rw [S_size]; exact (h.oko ho).2.2⟩
/-- its name's place lies among the others' -/
theorem DS.named (h : DS W M B a Qs nl Lo r) (ho : a.opn = false) {v' : Value} {p : Nat × Nat} (hx : RX W' B { r with names := v' }) (hm : W'.ownsRow M 24 3 v' (nl.length + 1) (fcs nl ++ fcs [p])) (f : FrB B r.names.ownBlock W W') :
    DS W' M B { a with names := nl ++ [p] } Qs (nl ++ [p]) Lo { r with names := v' } := by
  refine ⟨hx, h.op, h.bg, FrB.rowT h.nms f h.rx h.lib (by decide) (by decide), h.eq, fun x hx => ⟨(h.code x hx).1, FrB.rowT h.nms f h.rx (h.code x hx).2 (by decide) (by decide)⟩, h.ap, ?_, ?_, FrB.rowT h.nms f h.rx h.mks (by decide) (by decide), FrB.rowT h.nms f h.rx h.us (by decide) (by decide), fun e => (by rw [show a.opn = true from e] at ho; cases ho), h.ok, fun e => (by rw [show a.opn = true from e] at ho; cases ho), ⟨h.bm.1, Nat.le_trans h.bm.2 f.size⟩, fun g hg => ⟨(h.cv g hg).1, Nat.lt_of_lt_of_le (h.cv g hg).2 (f.size)⟩⟩
  · rw [List.length_append, fcs_app]
    exact hm
  · show nl ++ [p] = nl ++ [p] ++ (if a.opn = true then _ else _)
    rw [ho]
    simp
end
theorem DS.setSame {W : World} {M B : Nat} {a : As} {Qs : List Pr} {nl : List (Nat × Nat)} {Lo : List K} {r : Rv} (h : DS W M B a Qs nl Lo r) (ho : a.opn = true) : setL a Lo = a := by
  have e : (setL a Lo).lib = a.lib := by rw [h.setLib ho Lo, h.eq, if_pos ho]
  have e2 : setL a Lo = { a with lib := (setL a Lo).lib } := rfl
  rw [e2, e]
/-- what the cells of the open procedure say -/
def SP (r : Rv) (B : Nat) (co : Option Addr) (cl cc : Nat) (W : World) : Prop := W.cell? ⟨B, 11, none⟩ = some (.string (S r.name)) ∧ W.cell? ⟨B, 6, none⟩ = some (.int .i64 r.p.args) ∧ W.cell? ⟨B, 7, none⟩ = some (.int .i64 r.p.reads) ∧ W.cell? ⟨B, 8, none⟩ = some (.int .i64 r.p.writes) ∧ W.cell? ⟨B, 9, none⟩ = some (.int .i64 r.p.locals) ∧ W.cell? ⟨B, 10, none⟩ = some (.slice co cl cc)
theorem RX.sp {W : World} {B : Nat} {r : Rv} {co : Option Addr} {cl cc : Nat} (h : RX W B r) (hc : r.code = .slice co cl cc) : SP r B co cl cc W := ⟨h.cell 11, h.cell 6, h.cell 7, h.cell 8, h.cell 9, by rw [h.cell 10, ← hc]; rfl⟩
/-- the closed procedure is appended -/
theorem DS.appL {W0 W : World} {M B : Nat} {a : As} {Qs : List Pr} {nl : List (Nat × Nat)} {Lo : List K} {r : Rv} (h : DS W0 M B a Qs nl Lo r) (ho : a.opn = true) (hx : RX W B { r with opn := false }) (f0 : FrB B none W0 W) {f : Nat} (hF : FB W f (.int .i64 0) (.int .i64 0) (.int .i64 0)) (hq : Qs.length ≤ 65537) {co : Option Addr} {cc : Nat} (hc : r.code = .slice co Lo.length cc) (ty : TypeId) :
    ∃ v' w', (Builtin.append_ #[22, 22] ty #[r.lib, .slice (some ⟨W.heap.size, 0, none⟩) 1 1]).run Tryz.prog (W.alloc (.cells #[.string (S r.name), .int .i64 r.p.args, .int .i64 r.p.reads, .int .i64 r.p.writes, .int .i64 r.p.locals, .slice co Lo.length cc] 72)) = .ok v' w' ∧ (∃ o9 n9 c9, v' = .slice o9 n9 c9) ∧ w'.cell? ⟨B, 0, none⟩ = some r.lib ∧ w'.frozen? ⟨B, 0, none⟩ = false ∧ SP r B co Lo.length cc w' ∧ SP r B co Lo.length cc (w'.setCell ⟨B, 0, none⟩ v') ∧
      Hid (FB (w'.setCell ⟨B, 0, none⟩ v') f (.int .i64 0) (.int .i64 0) (.int .i64 0) ∧ DS (w'.setCell ⟨B, 0, none⟩ v') M B { a with opn := false, names := nl } (Qs ++ [(⟨S r.name, r.p, co, Lo.length, cc, Lo⟩ : Pr)]) nl [] { r with opn := false, lib := v' } ∧ FrB B r.lib.ownBlock W0 (w'.setCell ⟨B, 0, none⟩ v')) := by
  have hlib : W.ownsRow M 72 6 r.lib Qs.length (prcs Qs) := f0.rowN h.rx h.lib (by decide)
  have hMW : M ≤ W.heap.size := Nat.le_trans h.bm.2 f0.size
  obtain ⟨v', w', p1, ⟨o9, c9, hv9⟩, p3, p4, p5, _⟩ := rapp Tryz.underlying22 infoPc rfl (by decide) (by decide) (by decide) (zs := [.string (S r.name), .int .i64 r.p.args, .int .i64 r.p.reads, .int .i64 r.p.writes, .int .i64 r.p.locals, .slice co Lo.length cc]) hx hlib rfl (by intro u hu; simp at hu; rcases hu with rfl | rfl | rfl | rfl | rfl | rfl <;> rfl) hq hMW ty
  have hx2 : RX (w'.setCell ⟨B, 0, none⟩ v') B { r with opn := false, lib := v' } := heap_setCell_same w' B 0 _ _ v' p3
  have f4 : FrB B r.lib.ownBlock W0 (w'.setCell ⟨B, 0, none⟩ v') := ⟨p4.os.trans f0.os, p4.tape.trans f0.tape, p4.output.trans f0.output, by simpa using Nat.le_trans f0.size p4.size, fun k hk h1 h2 => (heap_setCell_other _ _ _ _ h1).trans ((p4.block k (Nat.lt_of_lt_of_le hk f0.size) h1 h2).trans (f0.block k hk h1 (by simp)))⟩
  have nfb : r.lib.ownBlock ≠ some f := fun e => by
    obtain ⟨cur', hc'⟩ := own_blk hlib e
    rw [show W.heap[f]? = _ from hF] at hc'
    simp only [Option.some.injEq, Obj.cells.injEq] at hc'
    exact absurd hc'.2.1 (by decide)
  refine ⟨v', w', p1, ⟨o9, _, c9, hv9⟩, p3.cell 0, frozen_of_row _ _ 0 _ _ p3, ⟨p3.cell 11, p3.cell 6, p3.cell 7, p3.cell 8, p3.cell 9, by rw [p3.cell 10, ← hc]; rfl⟩, ⟨hx2.cell 11, hx2.cell 6, hx2.cell 7, hx2.cell 8, hx2.cell 9, by rw [hx2.cell 10, ← hc]; rfl⟩, ?_, ?_, ?_⟩
  · exact (heap_setCell_other _ _ _ _ (hx.ne hF (by decide))).trans ((p4.block f (Array.getElem?_eq_some_iff.1 hF).1 (hx.ne hF (by decide)) nfb).trans hF)
  · refine h.shut ho hc hx2 ?_ f4
    unfold OwnP
    rw [prcs_append, List.length_append]
    exact p5 0
  · exact f4
/-- what the cells of the name's place say -/
def SN (r : Rv) (B : Nat) (W : World) : Prop := W.cell? ⟨B, 12, none⟩ = some (.int .i64 (r.nmAt.1 : Int)) ∧ W.cell? ⟨B, 13, none⟩ = some (.int .i64 (r.nmAt.2 : Int)) ∧ W.cell? ⟨B, 14, none⟩ = some (.int .i64 0)
theorem RX.sn {W : World} {B : Nat} {r : Rv} (h : RX W B r) : SN r B W := ⟨h.cell 12, h.cell 13, h.cell 14⟩
theorem DS.appN {W : World} {M B : Nat} {a : As} {Qs : List Pr} {nl : List (Nat × Nat)} {Lo : List K} {r : Rv} (h : DS W M B a Qs nl Lo r) (ho : a.opn = false) {f : Nat} (hF : FB W f (.int .i64 0) (.int .i64 0) (.int .i64 0)) (hfn : ∀ g, r.names.ownBlock = some g → g ≠ f) (hq : nl.length ≤ 65537) (ty : TypeId) :
    ∃ v' w', (Builtin.append_ #[39, 39] ty #[r.names, .slice (some ⟨W.heap.size, 0, none⟩) 1 1]).run Tryz.prog (W.alloc (.cells #[.int .i64 (r.nmAt.1 : Int), .int .i64 (r.nmAt.2 : Int), .int .i64 0] 24)) = .ok v' w' ∧ (∃ o9 n9 c9, v' = .slice o9 n9 c9) ∧ w'.cell? ⟨B, 1, none⟩ = some r.names ∧ w'.frozen? ⟨B, 1, none⟩ = false ∧ SN r B w' ∧ SN r B (w'.setCell ⟨B, 1, none⟩ v') ∧
      Hid (FB (w'.setCell ⟨B, 1, none⟩ v') f (.int .i64 0) (.int .i64 0) (.int .i64 0) ∧ DS (w'.setCell ⟨B, 1, none⟩ v') M B { a with names := nl ++ [r.nmAt] } Qs (nl ++ [r.nmAt]) Lo { r with names := v' } ∧ (∀ g, v'.ownBlock = some g → r.names.ownBlock = some g ∨ W.heap.size ≤ g) ∧ FrB B r.names.ownBlock W (w'.setCell ⟨B, 1, none⟩ v')) := by
  obtain ⟨v', w', p1, ⟨o9, c9, hv9⟩, p3, p4, p5, p6⟩ := rapp Tryz.underlying39 infoFt rfl (by decide) (by decide) (by decide) (zs := [.int .i64 (r.nmAt.1 : Int), .int .i64 (r.nmAt.2 : Int), .int .i64 0]) h.rx h.nms rfl (by intro u hu; simp at hu; rcases hu with rfl | rfl | rfl <;> rfl) hq h.bm.2 ty
  have hx2 : RX (w'.setCell ⟨B, 1, none⟩ v') B { r with names := v' } := heap_setCell_same w' B 1 _ _ v' p3
  have f4 : FrB B r.names.ownBlock W (w'.setCell ⟨B, 1, none⟩ v') := p4.set
  have nfb : r.names.ownBlock ≠ some f := fun e => hfn f e rfl
  refine ⟨v', w', p1, ⟨o9, _, c9, hv9⟩, p3.cell 1, frozen_of_row _ _ 1 _ _ p3, ⟨p3.cell 12, p3.cell 13, p3.cell 14⟩, ⟨hx2.cell 12, hx2.cell 13, hx2.cell 14⟩, ?_, ?_, ?_, ?_⟩
  · exact (heap_setCell_other _ _ _ _ (h.rx.ne hF (by decide))).trans ((p4.block f (Array.getElem?_eq_some_iff.1 hF).1 (h.rx.ne hF (by decide)) nfb).trans hF)
  · exact h.named ho hx2 (p5 1) f4
  · intro g hg
    rcases p6 with p6 | ⟨k, hk, hk2⟩
    · exact .inl (p6 ▸ hg)
    · rw [hk] at hg
      cases hg
      exact .inr hk2
  · exact f4
end Go.Proofs.YtiiplikmoodfnaaGreatDoor
