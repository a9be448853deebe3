/-
  THE WALK OF codec.fresh.
-/
import Derived.Test.YtcpaonjidioclaaDoorMem
namespace Go.Proofs.YtcpaonjidioclaaDoor
open Go.RowKit

set_option maxHeartbeats 400000 in
theorem fresh_any (w : World) (ao : Option Addr) (cap n : Nat) (zs : List Nat) (hn : n = zs.length) (h : BytesAt w ao zs) (hm : n ≤ 281474976710656) :
    Calls Tryd.prog 18 #[.slice ao n cap] w fun e w' =>
      e = .returned (.slice (some ⟨w.heap.size, 0, none⟩) n n) ∧ RowAt w' w.heap.size zs ∧ Below w.heap.size w w' ∧ w'.heap.size = w.heap.size + 1 := by
  have hmk := make_bytes n (n : Int) rfl hm
  have hcp := copy_made w ao n n cap 3 zs hn h (by omega) Tryd.underlying22 size8
  rw [show n - zs.length = 0 by omega, List.replicate_zero, List.append_nil] at hcp
  have HR : Hid (RowAt (w.alloc (.cells (cellsU8 zs) 5)) w.heap.size zs) := rowAt_alloc w zs
  have HB : Hid (Below w.heap.size w (w.alloc (.cells (cellsU8 zs) 5))) := (Below.refl _ _).alloc (Nat.le_refl _) _
  clear h hn
  go_enter Tryd.func18, Tryd.ntmps18
  go_wp2
  go_ret
  exact ⟨rfl, HR.out, HB.out, by simp⟩

end Go.Proofs.YtcpaonjidioclaaDoor
