/-
  Clear.
-/
import Derived.Test.YtenmkigoohpfmaaDTake2
import Derived.Laws.Tables
namespace Go.Proofs.Ytenmkigoohpfmaa
open Go.RowKit Go.Sort

theorem clear_map {w : World} {M : Nat} {ms : Array MapEntry} {clock : Nat} (hb : w.heap[M]? = some (.map ms clock)) (ty : TypeId) : (Builtin.clear_ #[42] ty #[.map (some M)]).run Try.prog w = .ok (.tuple #[]) (ChangeMaps.setBlock w M (.map #[] clock)) := by
  simp [Builtin.clear_, run_underlying Try.underlying42, MapKept.run_getObj_map hb, MapKept.run_setObj_map _ hb, Result.andThen, ChangeMaps.setBlock]
theorem clear_lines {w : World} {L P : Nat} {C : Array Value} (hL : w.heap[L]? = some (.cells C TL (0, 0))) (hC : C.size = 3 * P) (hP : 1 ≤ P) (ty : TypeId) : (Builtin.clear_ #[43] ty #[.slice (some ⟨L, 0, none⟩) P P]).run Try.prog w = .ok (.tuple #[]) (w.setRow L (zLn P)) := by
  have hz : ∀ w : World, (zeroValue TL).run Try.prog w = .ok (.agg #[.pointer none, .pointer none, .int .i64 0]) w := fun w => by kernel_rfl
  have e1 : (Builtin.zeroCells (Value.agg #[.pointer none, .pointer none, .int .i64 0]).cells P) = zLn P := rfl
  have hone : ∀ v ∈ (zLn P).toList, v.oneCell' = true := by
    intro v hv
    simp only [zLn, madeCells, Array.toList_map, List.mem_map] at hv
    obtain ⟨i, _, rfl⟩ := hv
    have : i % 3 = 0 ∨ i % 3 = 1 ∨ i % 3 = 2 := by omega
    rcases this with h | h | h <;> simp [h, Value.oneCell']
  have hst := run_storeCells_from (P := Try.prog) L TL (zLn P).toList 0 C w hL (by simp [zLn, size_madeCells]; omega) hone
  obtain ⟨n, rfl⟩ : ∃ n, P = n + 1 := ⟨P - 1, by omega⟩
  simp [Builtin.clear_, run_underlying Try.underlying43, hz, e1]
  rw [hst]
  simp [Result.andThen]
theorem DA.cleared {w : World} {D M L P : Nat} {hf : Value} {es : List En} (h : DA w D M L hf P es) {clock : Nat} {ms : Array MapEntry} (hm : w.heap[M]? = some (.map ms clock)) :
    DA ((ChangeMaps.setBlock w M (.map #[] clock)).setRow L (zLn P)) D M L hf P [] ∧ Fr (Ft M L es) w ((ChangeMaps.setBlock w M (.map #[] clock)).setRow L (zLn P)) := by
  obtain ⟨C, hC, _, _⟩ := h.ln
  have mD : D ≠ M := fun e' => by have := h.dc; rw [e', hm] at this; cases this
  have dL : D ≠ L := fun e' => by have := h.dc; rw [e', hC] at this; cases this
  have mL : L ≠ M := fun e' => by have := hC; rw [e', hm] at this; cases this
  have hC1 : (ChangeMaps.setBlock w M (.map #[] clock)).heap[L]? = some (.cells C TL (0, 0)) := (ChangeMaps.heap_setBlock_other hm _ mL).trans hC
  refine ⟨⟨?_, ⟨#[], clock, ?_, rfl⟩, ⟨zLn P, setRow_heap _ L C _ TL _ hC1, by simp [zLn, size_madeCells]; omega, fun p hp' => zLn_at P p hp'⟩, fun A e C' h' => by simp at h', by simp, by simp, by simp, h.P0⟩, rfl, rfl, rfl, by simp [ChangeMaps.setBlock], fun k _ hS => ?_⟩
  · exact (setRow_other _ L D _ dL).trans ((ChangeMaps.heap_setBlock_other hm _ mD).trans h.dc)
  · exact (setRow_other _ L M _ (Ne.symm mL)).trans (ChangeMaps.heap_setBlock_same hm _)
  · exact (setRow_other _ L k _ (fun e' => hS (.inr (.inl e')))).trans (ChangeMaps.heap_setBlock_other hm _ (fun e' => hS (.inl e')))
set_option maxRecDepth 100000 in
set_option maxHeartbeats 1000000 in
theorem clear_any (w : World) (D M L P : Nat) (hf : Value) (es : List En) (h : DA w D M L hf P es) :
    Calls Try.prog 9 #[ptr D] w fun e w' => e = .returned (.tuple #[]) ∧ DA w' D M L hf P [] ∧ Fr (Ft M L es) w w' := by
  obtain ⟨ms, clock, hm1, _⟩ := h.mp
  obtain ⟨C, hC, hCs, _⟩ := h.ln
  have mD : D ≠ M := fun e' => by have := h.dc; rw [e', hm1] at this; cases this
  have mL : L ≠ M := fun e' => by have := hC; rw [e', hm1] at this; cases this
  obtain ⟨_, c1, _⟩ := h.cells
  have hcm := fun ty => clear_map hm1 ty
  have c2 : (ChangeMaps.setBlock w M (.map #[] clock)).cell? ⟨D, 2, none⟩ = some (.slice (some ⟨L, 0, none⟩) P P) := by rw [World.cell?, ChangeMaps.heap_setBlock_other hm1 _ mD, h.dc]; rfl
  have hcl := fun ty => clear_lines (w := ChangeMaps.setBlock w M (.map #[] clock)) ((ChangeMaps.heap_setBlock_other hm1 _ mL).trans hC) hCs h.P0.1 ty
  have HF : Hid (DA _ D M L hf P [] ∧ Fr (Ft M L es) w _) := h.cleared hm1
  clear hm1 hC hCs h
  go_enter Try.func9, Try.ntmps9
  go_wp2
  go_end0
  exact ⟨rfl, HF.out.1, HF.out.2⟩
end Go.Proofs.Ytenmkigoohpfmaa
