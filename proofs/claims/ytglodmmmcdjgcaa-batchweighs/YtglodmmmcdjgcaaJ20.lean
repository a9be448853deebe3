import Derived.Test.YtglodmmmcdjgcaaJ19
import Derived.Test.YtglodmmmcdjgcaaJ18
import Derived.Test.YtglodmmmcdjgcaaJ12
import Derived.Deep.RegionHeld3
import Derived.Deep.RegionWith
import Derived.Test.YtglodmmmcdjgcaaJ04
import Derived.Deep.MidRow
/-
  WHAT A Reader's CALLS KEEP.
-/
namespace Go.Proofs.Ytglodmmmcdjgcaa
open Go.RowKit

end Go.Proofs.Ytglodmmmcdjgcaa
/-
  THE WALKS OF giveUp, look, end, upto.
-/
namespace Go.Proofs.Ytglodmmmcdjgcaa.Kk
open Go.RowKit Go.Sort

/-- a reading -/
abbrev rdv (r : Nat) : Value := .agg #[.pointer (some ⟨r, 0, none⟩)]
theorem upto_le (b : List Nat) (p most : Nat) : (rdUpto b p 0 most).1 ≤ most := by
  unfold rdUpto
  repeat' split
  all_goals (try simp)
  all_goals omega
end Go.Proofs.Ytglodmmmcdjgcaa.Kk
/-
  THE WALKS OF key, args.
-/
namespace Go.Proofs.Ytglodmmmcdjgcaa.Kk
open Go.RowKit Go.Sort

theorem ldKey (W : World) (G : Nat) (u v : Value) (x y : Int) (h : W.heap[G]? = some (.cells #[u, v] 47 (0, 0))) :
    (loadVar 47 ⟨G, 0, none⟩).run Try.prog ((W.setCell ⟨G, 0, none⟩ (.int .i64 x)).setCell ⟨G, 1, none⟩ (.int .i64 y)) = .ok (.agg #[.int .i64 x, .int .i64 y]) ((W.setCell ⟨G, 0, none⟩ (.int .i64 x)).setCell ⟨G, 1, none⟩ (.int .i64 y)) := by
  have h1 := heap_setCell_same W G 0 _ _ (.int .i64 x) h
  have h2 := heap_setCell_same _ G 1 _ _ (.int .i64 y) h1
  refine run_loadVar_mid (P := Try.prog) _ G 0 47 [.int .i64 x, .int .i64 y] _ ?_ Try.underlying47 rfl (by kernel_rfl)
  intro j v hv
  simp only [World.cell?, h2, Nat.zero_add]
  simpa using hv

/-- a row of numbers that a call has made -/
def Own64 (w0 : World) (A : List Int) (v : Value) (w' : World) : Prop := ∃ g, v = .slice (some ⟨g, 0, none⟩) A.length A.length ∧ R64 w' g A ∧ w0.heap.size ≤ g
theorem setA {A : List Int} {n k : Nat} {z : Int} (hk : A.length = k) (hn : k < n) : (A ++ List.replicate (n - A.length) 0).set k z = (A ++ [z]) ++ List.replicate (n - (A ++ [z]).length) 0 := by
  rw [List.set_append_right _ _ (by omega), hk, Nat.sub_self, show n - k = (n - (k + 1)) + 1 by omega, List.replicate_succ, List.set_cons_zero]
  simp [hk]
end Go.Proofs.Ytglodmmmcdjgcaa.Kk
