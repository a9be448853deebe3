/-
  THE WALK OF CodecSums.
-/
import Derived.Test.YthdlilekilkogaaDoorRefSum
import Derived.Test.YthdlilekilkogaaDoorIntact
import Derived.Test.YthdlilekilkogaaDoorRoomy
import Derived.Lib.SlBytesConst
namespace Go.Proofs.YthdlilekilkogaaDoor
open Go.RowKit

theorem sum_nil : Crc.sum [] = 0 := by decide
theorem sum_nine : Crc.sum [49, 50, 51, 52, 53, 54, 55, 56, 57] = 3421780262 := by decide +kernel

set_option maxHeartbeats 400000 in
theorem sums_walk (w : World) (ao : Option Addr) (cap n : Nat) (zs : List Nat) (hn : n = zs.length) (h : BytesAt w ao zs) (hm : n + 3 ≤ 281474976710656) (ht : TabAt w) :
    Calls Tryd.prog 3 #[.slice ao n cap] w fun e w' => e = .returned (.bool true) ∧ Below w.heap.size w w' := by
  have kc := fun (w : World) (C : Array Value) (n c : Nat) => Lib.run_convert_bytes_const (P := Tryd.prog) w 22 5 C n c Tryd.underlying22 Tryd.underlying5
  have HN : Hid (n = zs.length) := hn
  have HA : Hid (BytesAt w ao zs) := h
  have HT : Hid (TabAt w) := ht
  clear hn h ht
  go_enter Tryd.func3, Tryd.ntmps3
  go_wp2_with fail
  refine (roomy_any w ao cap n zs HN.out HA.out hm).mono ?_
  rintro e w1 ⟨rfl, hrow, hbel, hsz⟩
  have HR : Hid (RowAt w1 w.heap.size (zs ++ [171, 171, 171])) := hrow
  have HS : Hid (w1.heap.size = w.heap.size + 1) := hsz
  have HT1 : Hid (TabAt w1) := HT.out.kept hbel
  have HA1 : Hid (BytesAt w1 ao zs) := HA.out.kept hbel
  have HB1 : Hid (BytesAt w1 (some ⟨w.heap.size, 0, none⟩) zs) := hrow.bytes0 HA.out.1
  clear hrow hsz
  go_wp2_with fail
  refine (sum_any w1 _ _ n zs HN.out HB1.out (by rw [← HN.out]; unfold maxLen; omega) HT1.out).mono ?_
  rintro e w2 ⟨rfl, rfl⟩
  go_wp2_with fail
  refine (refSum_any w2 _ _ n zs HN.out HA1.out (by rw [← HN.out]; unfold maxLen; omega)).mono ?_
  rintro e w3 ⟨rfl, rfl⟩
  go_wp2_with fail
  refine (intact_any w3 w.heap.size ao (n + 3) cap n zs HN.out HA1.out (by rw [← HN.out]; unfold maxLen; omega) (fun j hj => HR.out.cell j (by simpa using hj)) (by rw [HN.out]; exact Nat.le_refl _)).mono ?_
  rintro e w4 ⟨rfl, q, hq⟩
  have HT4 : Hid (TabAt w4) := by subst hq; exact HT1.out
  have HB4 : Hid (Below w.heap.size w w4) := by subst hq; exact below_drewN hbel q
  clear hq hbel
  go_wp2_with fail
  refine (sum_any _ _ _ 0 [] rfl ⟨by simp, .inl rfl⟩ (by simp [maxLen]) HT4.out).mono ?_
  rintro e w5 ⟨rfl, rfl⟩
  rw [sum_nil]
  go_wp2_with fail
  refine (sum_any _ _ _ 9 [49, 50, 51, 52, 53, 54, 55, 56, 57] rfl ⟨by decide, .inr ⟨_, 0, rfl, fun j hj => ?_⟩⟩ (by simp [maxLen]) (HT4.out.kept ((Below.refl _ _).alloc (Nat.le_refl _) _))).mono ?_
  · rw [Nat.zero_add, World.cell?_alloc_mark]
    obtain h | h | h | h | h | h | h | h | h : j = 0 ∨ j = 1 ∨ j = 2 ∨ j = 3 ∨ j = 4 ∨ j = 5 ∨ j = 6 ∨ j = 7 ∨ j = 8 := by simp at hj; omega
    all_goals subst h; rfl
  rintro e w6 ⟨rfl, rfl⟩
  rw [sum_nine]
  go_wp2
  go_ret
  exact ⟨rfl, HB4.out.alloc (by have := HB4.out.size; omega) _⟩

end Go.Proofs.YthdlilekilkogaaDoor
