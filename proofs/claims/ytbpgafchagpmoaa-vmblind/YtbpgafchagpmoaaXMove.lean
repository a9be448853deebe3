/-
  THE WALK OF move.
-/
import Derived.Test.YtbpgafchagpmoaaXRun
import Derived.Test.YtbpgafchagpmoaaXSame
namespace Go.Proofs.Ytbpgafchagpmoaa
open Go.RowKit Go.Sort

def mvP : Nums := ⟨1, 2, 2, 0⟩
def mvL : List K := [(7, 0), (6, 0), (24, 0), (31, 6), (1, 1), (36, 0), (7, 0), (6, 0), (11, 0), (32, 0), (7, 1), (6, 0), (10, 0), (32, 1)]
theorem mv_one : newE mvP mvL [4] [(true, 10), (true, 5)] = 0 ∧ runX mvP mvL [4] [(true, 10), (true, 5)] = ⟨true, 0, 0, [], [(1, 6), (1, 9)], 12⟩ := ⟨by kernel_rfl, by kernel_rfl⟩
theorem mv_two : newE mvP mvL [20] [(true, 6), (true, 9)] = 0 ∧ runX mvP mvL [20] [(true, 6), (true, 9)] = ⟨false, 200, 1, [], [(0, 0), (0, 0)], 6⟩ := ⟨by kernel_rfl, by kernel_rfl⟩
theorem KeysAt.mv {W : World} {G : Nat} (h : W.heap[G]? = some (.cells #[.int .i64 7, .int .i64 0, .int .i64 6, .int .i64 0, .int .i64 24, .int .i64 0, .int .i64 31, .int .i64 6, .int .i64 1, .int .i64 1, .int .i64 36, .int .i64 0, .int .i64 7, .int .i64 0, .int .i64 6, .int .i64 0, .int .i64 11, .int .i64 0, .int .i64 32, .int .i64 0, .int .i64 7, .int .i64 1, .int .i64 6, .int .i64 0, .int .i64 10, .int .i64 0, .int .i64 32, .int .i64 1] 66 (0, 0))) : KeysAt W (some ⟨G, 0, none⟩) mvL := by
  refine .inr ⟨G, 0, rfl, fun j u hu => ?_⟩
  have e : W.cell? ⟨G, 0 + j, none⟩ = (cks mvL).toArray[j]? := by
    simp only [World.cell?, h, Nat.zero_add]; rfl
  rw [e]
  simpa using hu
set_option maxRecDepth 100000 in
set_option maxHeartbeats 1000000 in
theorem move_any (w : World) : Calls Try.prog 37 #[] w fun e w' => e = .returned (pv mvP (some ⟨w.heap.size + 1, 0, none⟩) 14 14) ∧ KeysAt w' (some ⟨w.heap.size + 1, 0, none⟩) mvL ∧ Go.RowKit.Below w.heap.size w w' := by
  go_enter Try.func37, Try.ntmps37
  go_wp2
  refine bodyPost_ret (v := pv mvP (some ⟨w.heap.size + 1, 0, none⟩) 14 14) (by simp [results, Try.results37, go_sem, pv, mvP]) rfl ⟨rfl, KeysAt.mv (heap_alloc_new _ _ (by simp)), ((Below.refl _ _).alloc (Nat.le_refl _) _).alloc (by simp) _⟩
abbrev o1 (x : Int) : Obj := .cells #[.int .i64 x] 2
abbrev o2 (x y : Int) : Obj := .cells #[.bool true, .int .i64 x, .bool true, .int .i64 y] 64
theorem call_mv {w1 : World} {G : Nat} (hk : KeysAt w1 (some ⟨G, 0, none⟩) mvL) (x a b : Int) :
    CallIn ((w1.alloc (o1 x)).alloc (o2 a b)) mvP (some ⟨G, 0, none⟩) 14 14 mvL (some ⟨w1.heap.size, 0, none⟩) 1 1 [x] (some ⟨w1.heap.size + 1, 0, none⟩) 2 2 [(true, a), (true, b)] := by
  have hb : Go.RowKit.Below w1.heap.size w1 ((w1.alloc (o1 x)).alloc (o2 a b)) := ((Below.refl _ _).alloc (Nat.le_refl _) _).alloc (by simp) _
  have h1 : ((w1.alloc (o1 x)).alloc (o2 a b)).heap[w1.heap.size]? = some (o1 x) := (heap_alloc_old _ _ (by simp)).trans (heap_alloc_new _ _ rfl)
  have h2 : ((w1.alloc (o1 x)).alloc (o2 a b)).heap[w1.heap.size + 1]? = some (o2 a b) := heap_alloc_new _ _ (by simp)
  refine ⟨by unfold NIn In64 mvP; decide, hk.kept hb, rfl, fun e => (by cases e), ⟨.inr ⟨w1.heap.size, 0, rfl, fun j u hu => ?_⟩, fun e => by cases e⟩, rfl, ⟨.inr ⟨w1.heap.size + 1, 0, rfl, fun j u hu => ?_⟩, fun e => by cases e⟩, rfl⟩
  · rw [Nat.zero_add, World.cell?, h1]
    show (#[Value.int .i64 x] : Array Value)[j]? = some u
    simpa using hu
  · rw [Nat.zero_add, World.cell?, h2]
    show (#[Value.bool true, .int .i64 a, .bool true, .int .i64 b] : Array Value)[j]? = some u
    simpa [ccs] using hu
end Go.Proofs.Ytbpgafchagpmoaa
