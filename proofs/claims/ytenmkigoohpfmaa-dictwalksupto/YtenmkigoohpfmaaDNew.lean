/-
  New.
-/
import Derived.Test.YtenmkigoohpfmaaDGet
import Derived.Laws.MakeOwn
namespace Go.Proofs.Ytenmkigoohpfmaa
open Go.RowKit Go.Sort

theorem infoLn : (Try.prog.info? 52).map (fun i => (i.zero, i.size, i.bytes)) = some (some (.agg #[.pointer none, .pointer none, .int .i64 0]), 3, 24) := by kernel_rfl
def zLn (n : Nat) : Array Value := madeCells #[.pointer none, .pointer none, .int .i64 0] (n * 3)
theorem make_lines (c : Nat) (hc : c ≤ 256) (u : World) : (Instr.makeSlice 43 (.int .i64 (c : Int)) (.int .i64 (c : Int))).run Try.prog u = .ok (.slice (some ⟨u.heap.size, 0, none⟩) c c) (u.alloc (.cells (zLn c) 52)) := by
  obtain ⟨i0, hi, hz0, hz1, hz2⟩ := info_parts infoLn
  have h := run_make (P := Try.prog) u 43 52 i0 (.agg #[.pointer none, .pointer none, .int .i64 0]) Try.underlying43 hi hz0 .i64 .i64 (c : Int) (c : Int) (by omega) (Int.le_refl _) (by rw [hz2]; omega) (by omega)
  rw [hz1, Int.toNat_natCast] at h
  exact h
theorem zLn_at (n p : Nat) (hp : p < n) : (zLn n)[3 * p]? = some (.pointer none) ∧ (zLn n)[3 * p + 1]? = some (.pointer none) ∧ (zLn n)[3 * p + 2]? = some (.int .i64 0) := by
  have e0 : 3 * p % 3 = 0 := by omega
  have e1 : (3 * p + 1) % 3 = 1 := by omega
  have e2 : (3 * p + 2) % 3 = 2 := by omega
  refine ⟨?_, ?_, ?_⟩ <;> simp only [zLn, madeCells, Array.getElem?_map, Array.getElem?_range]
  · rw [if_pos (by omega)]; simp [e0]
  · rw [if_pos (by omega)]; simp [e1]
  · rw [if_pos (by omega)]; simp [e2]
theorem DA.new (w : World) (hf : Value) (n : Nat) (h1 : 1 ≤ n) (h2 : n ≤ 256) : DA (((w.alloc (.cells #[hf, .map (some (w.heap.size + 1)), .slice (some ⟨w.heap.size + 1 + 1, 0, none⟩) n n] 45)).alloc (.map #[] 0)).alloc (.cells (zLn n) 52)) w.heap.size (w.heap.size + 1) (w.heap.size + 1 + 1) hf n [] := by
  refine ⟨(heap_alloc_old _ _ (by simp; omega)).trans ((heap_alloc_old _ _ (by simp)).trans (heap_alloc_new _ _ rfl)), ⟨#[], 0, (heap_alloc_old _ _ (by simp)).trans (heap_alloc_new _ _ (by simp)), rfl⟩, ⟨zLn n, heap_alloc_new _ _ (by simp), by simp [zLn, size_madeCells]; omega, fun p hp => zLn_at n p hp⟩, fun A e C h => by simp at h, by simp, by simp, by simp, h1, h2⟩
abbrev hfn (f : Nat) : Value := .func (.func f) #[] #[]
/-- a hash function -/
def HashOK (f : Nat) (h : K → Nat) : Prop := ∀ (w : World) (k1 k2 : Int), Calls Try.prog f #[.agg #[.int .i64 k1, .int .i64 k2]] w fun e w' => e = .returned (.int .u64 ((h (k1, k2) : Nat) : Int)) ∧ Grew w w'
def hash0 (_ : K) : Nat := 0
theorem hash_nil : HashOK 10 hash0 := by
  intro w k1 k2
  go_enter Try.func10, Try.ntmps10
  go_wp2
  go_ret
  exact ⟨rfl, (Grew.refl w).alloc _⟩
set_option maxRecDepth 100000 in
set_option maxHeartbeats 1000000 in
theorem new_nil (w : World) (n : Nat) (h1 : 1 ≤ n) (h2 : n ≤ 256) :
    Calls Try.prog 4 #[.int .i64 (n : Int), .nilFunc] w fun e w' => ∃ D M L, e = .returned (.tuple #[ptr D, .int .i64 0]) ∧ DA w' D M L (hfn 10) n [] ∧ (w.heap.size ≤ D ∧ w.heap.size ≤ M ∧ w.heap.size ≤ L) ∧ Below w.heap.size w w' := by
  have heq : ∀ w : World, (binOp .eql 40 .nilFunc .nilFunc).run Try.prog w = .ok (.bool true) w := fun _ => by kernel_rfl
  have hmk : ∀ w : World, (Instr.makeMap 42 none).run Try.prog w = .ok (.map (some w.heap.size)) (w.alloc (.map #[] 0)) := fun w => by
    simp [Instr.makeMap, Result.andThen]
  have HD : Hid (DA _ _ _ _ _ _ _) := DA.new w (hfn 10) n h1 h2
  go_enter Try.func4, Try.ntmps4
  have hml := fun u => make_lines n h2 u
  go_wp2
  go_ret2
  exact ⟨_, _, _, rfl, HD.out, ⟨by omega, by omega, by omega⟩, (((Below.refl _ _).alloc (Nat.le_refl _) _).alloc (by simp) _).alloc (by simp; omega) _⟩
theorem run_eqFn (f : Nat) (w : World) : (binOp .eql 40 (hfn f) .nilFunc).run Try.prog w = .ok (.bool false) w := by
  have h : (Op.equal 40 (hfn f) .nilFunc).run Try.prog w = .ok false w := by
    have : ∀ d, (Op.equalIn (d + 1) 40 (hfn f) .nilFunc).run Try.prog w = .ok false w := fun d => by simp [Op.equalIn, run_underlying Try.underlying40]
    exact this 9999
  simp only [binOp]
  simp [h]
set_option maxRecDepth 100000 in
set_option maxHeartbeats 1000000 in
theorem new_fn (w : World) (f n : Nat) (h1 : 1 ≤ n) (h2 : n ≤ 256) :
    Calls Try.prog 4 #[.int .i64 (n : Int), hfn f] w fun e w' => ∃ D M L, e = .returned (.tuple #[ptr D, .int .i64 0]) ∧ DA w' D M L (hfn f) n [] ∧ (w.heap.size ≤ D ∧ w.heap.size ≤ M ∧ w.heap.size ≤ L) ∧ Below w.heap.size w w' := by
  have heq := run_eqFn f
  have hmk : ∀ w : World, (Instr.makeMap 42 none).run Try.prog w = .ok (.map (some w.heap.size)) (w.alloc (.map #[] 0)) := fun w => by
    simp [Instr.makeMap, Result.andThen]
  have HD : Hid (DA _ _ _ _ _ _ _) := DA.new w (hfn f) n h1 h2
  go_enter Try.func4, Try.ntmps4
  have hml := fun u => make_lines n h2 u
  go_wp2
  go_ret2
  exact ⟨_, _, _, rfl, HD.out, ⟨by omega, by omega, by omega⟩, (((Below.refl _ _).alloc (Nat.le_refl _) _).alloc (by simp) _).alloc (by simp; omega) _⟩

end Go.Proofs.Ytenmkigoohpfmaa
