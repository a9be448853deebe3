/-
  slices.Backward: THE ITERATOR FROM THE BACK.
-/
import Derived.Test.YtkpggbjibngplaaLRound
namespace Go.Proofs.Ytkpggbjibngplaa
open Go.RowKit Go.Sort Go.Shelf

attribute [local go_sem] Oper.semAt_some

/-- a place within m -/
def cl (m i : Nat) : Nat := min i (m - 1)
theorem cl_lt {m i : Nat} (h : 0 < m) : cl m i < m := by unfold cl; omega
theorem cl_of {m i : Nat} (h : i < m) : cl m i = i := by unfold cl; omega
/-- the last k places, from the back -/
def dn (m k : Nat) : List Nat := (List.range k).map (fun j => m - 1 - j)
theorem dn_succ (m k : Nat) : dn m (k + 1) = dn m k ++ [m - 1 - k] := by simp [dn, List.range_succ]
theorem dn_length (m k : Nat) : (dn m k).length = k := by simp [dn]
/-- what is handed on at a place -/
abbrev encP (m : Nat) (L : List K) (i : Nat) : Array Value := #[.int .i64 ((cl m i : Nat) : Int), .agg #[.int .i64 (cd L (cl m i)).1, .int .i64 (cd L (cl m i)).2]]

/-- what a round leaves: all below n₀, and the box -/
def KB (n₀ Bs : Nat) (A B : World) : Prop := Below n₀ A B ∧ B.heap[Bs]? = A.heap[Bs]?
theorem KB.refl (n₀ Bs : Nat) (A : World) : KB n₀ Bs A A := ⟨Below.refl _ _, rfl⟩
theorem KB.trans {n₀ Bs : Nat} {A B C : World} (h : KB n₀ Bs A B) (k : KB n₀ Bs B C) : KB n₀ Bs A C := ⟨h.1.trans k.1, k.2.trans h.2⟩
theorem KB.cell {n₀ Bs : Nat} {A B : World} (h : KB n₀ Bs A B) (i : Nat) : B.cell? ⟨Bs, i, none⟩ = A.cell? ⟨Bs, i, none⟩ := by simp only [World.cell?, h.2]

end Go.Proofs.Ytkpggbjibngplaa
