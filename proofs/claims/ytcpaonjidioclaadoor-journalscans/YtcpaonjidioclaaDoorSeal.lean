/-
  THE WALK OF codec.Seal.
-/
import Derived.Test.YtcpaonjidioclaaDoorFour
import Derived.Test.YtcpaonjidioclaaDoorSum
namespace Go.Proofs.YtcpaonjidioclaaDoor
open Go.RowKit

/-- make([]byte, 0, n) -/
theorem make_room (c : Nat) (C : Int) (hC : C = c) (hc : c ≤ 281474976710656) (u : World) : (Instr.makeSlice 22 (.int .i64 0) (.int .i64 C)).run Tryd.prog u =
    .ok (.slice (some ⟨u.heap.size, 0, none⟩) 0 c) (u.alloc (.cells (madeCells #[.int .u8 0] c) 5)) := by
  obtain ⟨i0, hi, hz0, hz1, hz2⟩ := info_parts info8
  subst hC
  have h := run_make (P := Tryd.prog) u 22 5 i0 (.int .u8 0) Tryd.underlying22 hi hz0 .i64 .i64 0 (c : Int) (by omega) (by omega) (by rw [hz2]; omega) (by omega)
  simpa [hz1, Value.cells] using h
theorem room_own (u : World) (c : Nat) (hc : c ≤ 281474976710656) : OwnB (u.alloc (.cells (madeCells #[.int .u8 0] c) 5)) u.heap.size (.slice (some ⟨u.heap.size, 0, none⟩) 0 c) [] :=
  ⟨by simp, World.ownsRow_made u _ c (Nat.le_refl _) (by unfold maxLen; omega) (by simp [size_madeCells])⟩
theorem below_grown {B : Nat} {a w w' : World} {row : Option Nat} (h : Below B a w) (hg : w.grownBy w' row) (hB : B ≤ w.heap.size) (hr : ∀ k, row = some k → B ≤ k) : Below B a w' := h.grown hg hB hr

end Go.Proofs.YtcpaonjidioclaaDoor
