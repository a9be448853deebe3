/-
  THE WALK OF roomy.
-/
import Derived.Test.YthdlilekilkogaaMem
namespace Go.Proofs.Ythdlilekilkogaa
open Go.RowKit

theorem marks_set (zs : List Nat) (m : Nat) (hm : m < 3) : (zs ++ (List.replicate m 171 ++ List.replicate (3 - m) 0)).set (zs.length + m) 171 = zs ++ (List.replicate (m + 1) 171 ++ List.replicate (3 - (m + 1)) 0) := by
  rw [List.set_append_right _ _ (by omega), Nat.add_sub_cancel_left]
  obtain rfl | rfl | rfl : m = 0 ∨ m = 1 ∨ m = 2 := by omega
  all_goals rfl

set_option maxHeartbeats 400000 in
theorem roomy_any (w : World) (ao : Option Addr) (cap n : Nat) (zs : List Nat) (hn : n = zs.length) (h : BytesAt w ao zs) (hm : n + 3 ≤ 281474976710656) :
    Calls Try.prog 14 #[.slice ao n cap] w fun e w' =>
      e = .returned (.tuple #[.slice (some ⟨w.heap.size, 0, none⟩) n (n + 3), .slice (some ⟨w.heap.size, 0, none⟩) (n + 3) (n + 3)]) ∧ RowAt w' w.heap.size (zs ++ [171, 171, 171]) ∧ Below w.heap.size w w' ∧ w'.heap.size = w.heap.size + 1 := by
  have hmk := make_bytes (n + 3) ((n : Int) + 3) (by omega) hm
  have hcp := copy_made w ao n (n + 3) cap 3 zs hn h (by omega) Try.underlying26 size8
  have HR : Hid (RowAt (w.alloc (.cells (cellsU8 (zs ++ List.replicate (n + 3 - zs.length) 0)) 5)) w.heap.size (zs ++ (List.replicate 0 171 ++ List.replicate (3 - 0) 0))) := by
    have := rowAt_alloc w (zs ++ List.replicate (n + 3 - zs.length) 0)
    rw [show n + 3 - zs.length = 3 by omega] at this
    rw [show n + 3 - zs.length = 3 by omega]
    exact this
  have HB : Hid (Below w.heap.size w (w.alloc (.cells (cellsU8 (zs ++ List.replicate (n + 3 - zs.length) 0)) 5))) := (Below.refl _ _).alloc (Nat.le_refl _) _
  have HN : Hid (n = zs.length) := hn
  clear h hn
  go_enter Try.func14, Try.ntmps14
  go_wp2
  go_loopw [5] (fun i wr => ∃ m : Nat, m ≤ 3 ∧ i = .int .i64 ((n + m : Nat) : Int) ∧ Hid (RowAt wr w.heap.size (zs ++ (List.replicate m 171 ++ List.replicate (3 - m) 0))) ∧ Below w.heap.size w wr ∧ Hid (wr.heap.size = w.heap.size + 1))
    (fun i _ => n + 3 - (intOf i).toNat)
  case atStart => exact ⟨0, by omega, rfl, HR, HB.out, by simp [Hid]⟩
  case round =>
    obtain ⟨m, hm3, rfl, hrow, hbel, hsz⟩ := hrel
    clear HR HB hcp hmk
    by_cases hlt : m < 3
    · have hc := hrow.out.cell (n + m) (by rw [HN.out]; simp; omega)
      have hf := hrow.out.frozen (n + m)
      have HR' : Hid (RowAt (wr.setCell ⟨w.heap.size, n + m, none⟩ (.int .u8 171)) w.heap.size (zs ++ (List.replicate (m + 1) 171 ++ List.replicate (3 - (m + 1)) 0))) := by
        have := hrow.out.set (n + m) 171
        rw [HN.out, marks_set zs m hlt, ← HN.out] at this
        exact this
      have hb' := hbel.setCell (p := ⟨w.heap.size, n + m, none⟩) (Nat.le_refl _) (.int .u8 171)
      have hs' : Hid ((wr.setCell ⟨w.heap.size, n + m, none⟩ (.int .u8 171)).heap.size = w.heap.size + 1) := by
        rw [Hid, World.size_setCell]; exact hsz.out
      generalize (zs ++ (List.replicate m 171 ++ List.replicate (3 - m) 0)).getD (n + m) 0 = old at *
      clear hrow hbel hsz
      go_wp2
      go_roundw
      case rel => exact ⟨m + 1, by omega, by go_num, HR', hb', hs'⟩
      case measure => simp [intOf]; omega
    · obtain rfl : m = 3 := by omega
      go_wp2
      go_ret2
      exact ⟨rfl, hrow.out, hbel, hsz.out⟩

end Go.Proofs.Ythdlilekilkogaa
