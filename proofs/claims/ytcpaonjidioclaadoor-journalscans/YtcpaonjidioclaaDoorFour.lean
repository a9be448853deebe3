/-
  THE WALKS OF appendFour AND four.
-/
import Derived.Test.YtcpaonjidioclaaDoorOwn
import Derived.Test.YtcpaonjidioclaaDoorRec
import Derived.Deep.QuietTactic
namespace Go.Proofs.YtcpaonjidioclaaDoor
open Go.RowKit

theorem four_src (w : World) (n : Nat) (hn : n < 4294967296) : BytesAt (w.alloc (.cells #[.int .u8 ((n : Int) % 256), .int .u8 ((n : Int) / 256 % 256), .int .u8 ((n : Int) / 65536 % 256), .int .u8 ((n : Int) / 16777216)] 5)) (some ⟨w.heap.size, 0, none⟩) (Rec.le4 n) := by
  have h := rowAt_alloc w (Rec.le4 n)
  have e : cellsU8 (Rec.le4 n) = #[.int .u8 ((n : Int) % 256), .int .u8 ((n : Int) / 256 % 256), .int .u8 ((n : Int) / 65536 % 256), .int .u8 ((n : Int) / 16777216)] := by
    simp [cellsU8, Rec.le4, b8]
    omega
  rw [e, ← List.append_nil (Rec.le4 n)] at h
  exact h.bytes0 (Rec.le4_lt n)

theorem grown_trans {a b c : World} {row : Option Nat} (h : a.grownBy b row) (k : b.grownBy c row) : a.grownBy c row :=
  ⟨k.os.trans h.os, k.tape.trans h.tape, k.output.trans h.output, Nat.le_trans h.size k.size, fun i hi hne => (k.block i (Nat.lt_of_lt_of_le hi h.size) hne).trans (h.block i hi hne)⟩

theorem or_word (z0 z1 z2 z3 : Nat) (h0 : z0 < 256) (h1 : z1 < 256) (h2 : z2 < 256) (h3 : z3 < 256) :
    bits .or .u32 (bits .or .u32 (bits .or .u32 (z0 : Int) ((z1 : Int) * 256)) ((z2 : Int) * 65536)) ((z3 : Int) * 16777216) = ((z0 + 256 * z1 + 65536 * z2 + 16777216 * z3 : Nat) : Int) := by
  have e1 : ((z1 : Int) * 256) = ((256 * z1 : Nat) : Int) := by omega
  have e2 : ((z2 : Int) * 65536) = ((65536 * z2 : Nat) : Int) := by omega
  have e3 : ((z3 : Int) * 16777216) = ((16777216 * z3 : Nat) : Int) := by omega
  have l1 : z0 ||| 256 * z1 < 2 ^ 32 := Nat.or_lt_two_pow (by omega) (by omega)
  have l2 : z0 ||| 256 * z1 ||| 65536 * z2 < 2 ^ 32 := Nat.or_lt_two_pow l1 (by omega)
  rw [e1, e2, e3, u32_or_nat _ _ (by omega) (by omega), u32_or_nat _ _ l1 (by omega), u32_or_nat _ _ l2 (by omega), Rec.or4 z0 z1 z2 z3 h0 h1 h2]

/-- four: the number that the first four bytes are. -/
theorem four_cells (w : World) (b off n cap : Nat) (z0 z1 z2 z3 : Nat) (h0 : z0 < 256) (h1 : z1 < 256) (h2 : z2 < 256) (h3 : z3 < 256) (hn : 4 ≤ n)
    (c0 : w.cell? ⟨b, off, none⟩ = some (.int .u8 (z0 : Int))) (c1 : w.cell? ⟨b, off + 1, none⟩ = some (.int .u8 (z1 : Int))) (c2 : w.cell? ⟨b, off + 2, none⟩ = some (.int .u8 (z2 : Int))) (c3 : w.cell? ⟨b, off + 3, none⟩ = some (.int .u8 (z3 : Int))) :
    Calls Tryd.prog 17 #[.slice (some ⟨b, off, none⟩) n cap] w fun e w' => e = .returned (.int .u32 ((z0 + 256 * z1 + 65536 * z2 + 16777216 * z3 : Nat) : Int)) ∧ ∃ q, w' = w.drewN q := by
  have hn0 : (0 : Int) < (n : Int) := by omega
  have hn1 : (1 : Int) < (n : Int) := by omega
  have hn2 : (2 : Int) < (n : Int) := by omega
  have hn3 : (3 : Int) < (n : Int) := by omega
  go_enter Tryd.func17, Tryd.ntmps17
  go_wp2
  go_quiet (fail)
  go_wp2
  go_ret
  exact ⟨congrArg (fun x => Ending.returned (.int .u32 x)) (or_word z0 z1 z2 z3 h0 h1 h2 h3), _, rfl⟩

theorem four_any (w : World) (ao : Option Addr) (cap n : Nat) (zs : List Nat) (hn : n = zs.length) (h : BytesAt w ao zs) (h4 : 4 ≤ n) :
    Calls Tryd.prog 17 #[.slice ao n cap] w fun e w' => e = .returned (.int .u32 ((Rec.un4 zs : Nat) : Int)) ∧ ∃ q, w' = w.drewN q := by
  obtain ⟨hz, rfl | ⟨b, off, rfl, hc⟩⟩ := h
  · simp at hn; omega
  · exact four_cells w b off n cap _ _ _ _ (Rec.getD_lt hz 0) (Rec.getD_lt hz 1) (Rec.getD_lt hz 2) (Rec.getD_lt hz 3) h4 (hc 0 (by omega)) (hc 1 (by omega)) (hc 2 (by omega)) (hc 3 (by omega))

end Go.Proofs.YtcpaonjidioclaaDoor
