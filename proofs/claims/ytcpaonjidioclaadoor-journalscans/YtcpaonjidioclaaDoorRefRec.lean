/-
  THE WALKS OF preluderef01.four, word, Seal, Unseal.
-/
import Derived.Test.YtcpaonjidioclaaDoorUnsealAny
import Derived.Test.YtcpaonjidioclaaDoorSeal
import Derived.Test.YtcpaonjidioclaaDoorRefSum
namespace Go.Proofs.YtcpaonjidioclaaDoor
open Go.RowKit

/-- word: the number that four bytes are. -/
theorem word_cells (w : World) (b off n cap : Nat) (z0 z1 z2 z3 : Nat) (h0 : z0 < 256) (h1 : z1 < 256) (h2 : z2 < 256) (h3 : z3 < 256) (hn : 4 ≤ n)
    (c0 : w.cell? ⟨b, off, none⟩ = some (.int .u8 (z0 : Int))) (c1 : w.cell? ⟨b, off + 1, none⟩ = some (.int .u8 (z1 : Int))) (c2 : w.cell? ⟨b, off + 2, none⟩ = some (.int .u8 (z2 : Int))) (c3 : w.cell? ⟨b, off + 3, none⟩ = some (.int .u8 (z3 : Int))) :
    Calls Tryd.prog 15 #[.slice (some ⟨b, off, none⟩) n cap] w fun e w' => e = .returned (.int .u32 ((z0 + 256 * z1 + 65536 * z2 + 16777216 * z3 : Nat) : Int)) ∧ ∃ q, w' = w.drewN q := by
  have hn0 : (0 : Int) < (n : Int) := by omega
  have hn1 : (1 : Int) < (n : Int) := by omega
  have hn2 : (2 : Int) < (n : Int) := by omega
  have hn3 : (3 : Int) < (n : Int) := by omega
  go_enter Tryd.func15, Tryd.ntmps15
  go_wp2
  go_quiet (fail)
  go_wp2
  go_ret
  refine ⟨congrArg (fun x => Ending.returned (.int .u32 x)) ?_, _, rfl⟩
  omega

theorem word_any (w : World) (ao : Option Addr) (cap n : Nat) (zs : List Nat) (hn : n = zs.length) (h : BytesAt w ao zs) (h4 : 4 ≤ n) :
    Calls Tryd.prog 15 #[.slice ao n cap] w fun e w' => e = .returned (.int .u32 ((Rec.un4 zs : Nat) : Int)) ∧ ∃ q, w' = w.drewN q := by
  obtain ⟨hz, rfl | ⟨b, off, rfl, hc⟩⟩ := h
  · simp at hn; omega
  · exact word_cells w b off n cap _ _ _ _ (Rec.getD_lt hz 0) (Rec.getD_lt hz 1) (Rec.getD_lt hz 2) (Rec.getD_lt hz 3) h4 (hc 0 (by omega)) (hc 1 (by omega)) (hc 2 (by omega)) (hc 3 (by omega))

end Go.Proofs.YtcpaonjidioclaaDoor
