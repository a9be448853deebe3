/-
  THE STORE's VERSIONS, BY NUMBER.
-/
import Derived.Test.YtfkijdlggdgfhaaCTake2
import Derived.Test.YtfkijdlggdgfhaaCPut2
namespace Go.Proofs.Ytfkijdlggdgfhaa
open Go.RowKit Go.Sort

/-- a version: its block, its number, its key, its place, whether it is filled, its cell -/
structure Vr where
  b : Nat
  n : Int
  k : K
  ba : Int
  ix : Int
  fl : Bool
  ci : Bool
  cv : Int
def cellsV (v : Vr) : Array Value := #[.int .i64 v.ba, .int .i64 v.ix, .int .i64 v.n, .int .i64 v.k.1, .int .i64 v.k.2, .bool v.fl, .bool v.ci, .int .i64 v.cv]
theorem keyedI : Maps.Keyed Try.prog 3 := Maps.int_keyed Try.underlying3
theorem int_lit {n : Int} (h : In64 n) : ∃ l, keyOf Try.prog 3 (.int .i64 n) = some l := ⟨_, Maps.keyOf_int_mk Try.underlying3 (WalkArith.wf_i64 h)⟩
/-- what is found -/
def fv (vs : List Vr) (k : Int) : Option Vr := vs.find? (fun e => decide (e.n = k))
def pf : Option Vr → Value
  | none => .pointer none
  | some e => ptr e.b
theorem fv_none {vs : List Vr} {k : Int} (h : fv vs k = none) : ∀ e ∈ vs, e.n ≠ k := by
  intro e he
  have := List.find?_eq_none.1 h e he
  simpa using this
theorem fv_some {vs : List Vr} {k : Int} {e : Vr} (h : fv vs k = some e) : e ∈ vs ∧ e.n = k := ⟨List.mem_of_find?_eq_some h, by have := List.find?_some h; simpa using this⟩
theorem fv_of {vs : List Vr} {e : Vr} (hk : (vs.map Vr.n).Nodup) (he : e ∈ vs) : fv vs e.n = some e := by
  obtain ⟨A, C, rfl⟩ := List.append_of_mem he
  have h := (nodup_split hk).1
  unfold fv
  rw [List.find?_append, List.find?_eq_none.2 (fun x hx => by simpa using h x hx)]
  simp
section
variable {w : World} {M : Nat} {vs : List Vr} {ms : Array MapEntry} {clock : Nat}
theorem vm_find (hp : ∀ e ∈ vs, In64 e.n) (hms : ms.toList.map (fun x => (x.key, x.val)) = vs.map (fun e => (.int .i64 e.n, ptr e.b))) (hk : (vs.map Vr.n).Nodup) {k : Int} (hkk : In64 k) (w : World) :
    (fv vs k = none ∧ (Instr.findKey 3 (.int .i64 k) ms.toList).run Try.prog w = .ok none w) ∨ (∃ j A e C, vs = A ++ e :: C ∧ A.length = j ∧ e.n = k ∧ fv vs k = some e ∧ (Instr.findKey 3 (.int .i64 k) ms.toList).run Try.prog w = .ok (some (j, ptr e.b)) w) := by
  obtain ⟨l, hl⟩ := int_lit hkk
  have hall : ∀ x ∈ ms.toList, ∃ l, keyOf Try.prog 3 x.key = some l := fun x hx => by
    have h1 : (x.key, x.val) ∈ vs.map (fun e => (.int .i64 e.n, ptr e.b)) := by rw [← hms]; exact List.mem_map.2 ⟨x, hx, rfl⟩
    obtain ⟨e, he, h2⟩ := List.mem_map.1 h1
    obtain ⟨l, h3⟩ := int_lit (hp e he)
    exact ⟨l, by rw [← (Prod.mk.inj h2).1]; exact h3⟩
  rcases keyedI.find w hl ms.toList hall with ⟨h1, h2⟩ | ⟨j, x, h1, h2, h3⟩
  · refine .inl ⟨?_, h1⟩
    refine List.find?_eq_none.2 fun e he => ?_
    have h4 : (.int .i64 e.n, ptr e.b) ∈ ms.toList.map (fun x => (x.key, x.val)) := by rw [hms]; exact List.mem_map.2 ⟨e, he, rfl⟩
    obtain ⟨x, hx, h5⟩ := List.mem_map.1 h4
    have h6 := h2 x hx
    simp only [decide_eq_true_eq]
    intro e'
    exact h6 (by rw [(Prod.mk.inj h5).1, e'])
  · have h4 : (ms.toList.map (fun x => (x.key, x.val)))[j]? = some (x.key, x.val) := by rw [List.getElem?_map, h2]; rfl
    rw [hms, List.getElem?_map] at h4
    obtain ⟨e, he, h5⟩ := Option.map_eq_some_iff.1 h4
    obtain ⟨h6, h7⟩ := Prod.mk.inj h5
    have hek : e.n = k := by have := h6.trans h3; injection this
    obtain ⟨hj, hje⟩ := List.getElem?_eq_some_iff.1 he
    refine .inr ⟨j, vs.take j, e, vs.drop (j + 1), ?_, by rw [List.length_take]; omega, hek, ?_, ?_⟩
    · rw [← hje, ← List.drop_eq_getElem_cons hj, List.take_append_drop]
    · rw [← hek]; exact fv_of hk (List.mem_of_getElem? he)
    · rw [h1, h7]
theorem run_zeroV (w : World) : (zeroValue 83).run Try.prog w = .ok (.pointer none) w := by kernel_rfl
theorem vm_look (hb : w.heap[M]? = some (.map ms clock)) (hp : ∀ e ∈ vs, In64 e.n) (hms : ms.toList.map (fun x => (x.key, x.val)) = vs.map (fun e => (.int .i64 e.n, ptr e.b))) (hk : (vs.map Vr.n).Nodup) {k : Int} (hkk : In64 k) :
    (Instr.lookup 67 (.map (some M)) (.int .i64 k) false).run Try.prog w = .ok (pf (fv vs k)) w := by
  obtain ⟨l, hl⟩ := int_lit hkk
  rcases vm_find hp hms hk hkk w with ⟨h1, h2⟩ | ⟨j, A, e, C, _, _, _, h1, h2⟩
  · rw [h1]
    simp [Instr.lookup, run_underlying Try.underlying67, MapKept.run_getObj_map hb, keyedI.check w _ hl, h2, Result.andThen, pf]
  · rw [h1]
    simp [Instr.lookup, run_underlying Try.underlying67, MapKept.run_getObj_map hb, keyedI.check w _ hl, h2, Result.andThen, pf]
theorem vm_put (hb : w.heap[M]? = some (.map ms clock)) (hp : ∀ e ∈ vs, In64 e.n) (hms : ms.toList.map (fun x => (x.key, x.val)) = vs.map (fun e => (.int .i64 e.n, ptr e.b))) (hk : (vs.map Vr.n).Nodup) {k : Int} (hkk : In64 k) (hn : fv vs k = none) (b : Nat) :
    (Instr.mapUpdate 67 (.map (some M)) (.int .i64 k) (ptr b)).run Try.prog w = .ok () (ChangeMaps.setBlock w M (.map (ms.push ⟨.int .i64 k, ptr b, clock⟩) (clock + 1))) := by
  obtain ⟨l, hl⟩ := int_lit hkk
  rcases vm_find hp hms hk hkk w with ⟨h1, h2⟩ | ⟨j, A, e, C, _, _, _, h1, h2⟩
  · simp [Instr.mapUpdate, run_underlying Try.underlying67, MapKept.run_getObj_map hb, keyedI.check w false hl, h2, MapKept.run_setObj_map _ hb, Result.andThen, ChangeMaps.setBlock]
  · rw [hn] at h1; cases h1
theorem vm_del (hb : w.heap[M]? = some (.map ms clock)) (hp : ∀ e ∈ vs, In64 e.n) (hms : ms.toList.map (fun x => (x.key, x.val)) = vs.map (fun e => (.int .i64 e.n, ptr e.b))) (hk : (vs.map Vr.n).Nodup) {e : Vr} (he : e ∈ vs) (ty : TypeId) :
    ∃ A C ms', vs = A ++ e :: C ∧ (Builtin.delete_ #[67, 3] ty #[.map (some M), .int .i64 e.n]).run Try.prog w = .ok (.tuple #[]) (ChangeMaps.setBlock w M (.map ms' clock)) ∧ ms'.toList.map (fun x => (x.key, x.val)) = (A ++ C).map (fun e => (.int .i64 e.n, ptr e.b)) := by
  obtain ⟨l, hl⟩ := int_lit (hp e he)
  rcases vm_find hp hms hk (hp e he) w with ⟨h1, h2⟩ | ⟨j, A, e', C, h0, hj, _, h1, h2⟩
  · rw [fv_of hk he] at h1; cases h1
  · rw [fv_of hk he] at h1
    cases h1
    have hsub : (ms.eraseIdxIfInBounds j).toList = ms.toList.eraseIdx j := by
      unfold Array.eraseIdxIfInBounds
      split
      · simp
      · rename_i hh
        rw [List.eraseIdx_of_length_le (by simpa using hh)]
    refine ⟨A, C, ms.eraseIdxIfInBounds j, h0, ?_, ?_⟩
    · simp [Builtin.delete_, run_underlying Try.underlying67, MapKept.run_getObj_map hb, keyedI.check w _ hl, h2, MapKept.run_setObj_map _ hb, Result.andThen, ChangeMaps.setBlock]
    · rw [hsub, ChangeMaps.map_eraseIdx, hms, ← ChangeMaps.map_eraseIdx, h0, ← hj]
      simp [List.eraseIdx_append_of_length_le]
end

end Go.Proofs.Ytfkijdlggdgfhaa
