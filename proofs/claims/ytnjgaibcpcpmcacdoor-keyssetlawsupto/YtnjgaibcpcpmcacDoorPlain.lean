/-
  THE WALK OF plain.
-/
import Derived.Test.YtnjgaibcpcpmcacDoorKText
import Derived.Test.YtnjgaibcpcpmcacDoorKBytes
namespace Go.Proofs.YtnjgaibcpcpmcacDoor
open Go.RowKit Go.Sort Go.Shelf

theorem text7 : (ByteArray.mk (textOf (7, -12)).toArray) = ByteArray.mk #[55, 58, 45, 49, 50] := by
  have h1 : Lib.itoa 7 = [55] := by rw [Lib.itoa, if_neg (by omega), show (7 : Int).toNat = 7 from rfl, Lib.decDigits_one (by omega)]; rfl
  have h2 : Lib.itoa (-12) = [45, 49, 50] := by rw [Lib.itoa, if_pos (by omega), show (-12 : Int).natAbs = 12 from rfl, Dec.decDigits_rec 12 (by omega), Lib.decDigits_one (by omega)]; rfl
  simp [textOf, h1, h2]

set_option maxHeartbeats 1000000 in
set_option maxRecDepth 20000 in
theorem plain_any (w : World) (hv : DigVars w) :
    Calls Tryd.prog 5 #[] w fun e w' => e = .returned (.bool true) ∧ Grew w w' := by
  have hr : In64 (-12) := ⟨by omega, by omega⟩
  have HV : Hid (DigVars w) := hv
  have HT : Hid (∀ w, DigVars w → Calls Tryd.prog 19 #[.agg #[.int .i64 7, .int .i64 (-12)]] w fun e w' => e = .returned (.tuple #[.string ⟨#[55, 58, 45, 49, 50]⟩, .int .i64 0]) ∧ ∃ q os, w' = grow (w.drewN q) os) := fun w h => by
    have := text_key w 7 (-12) (by decide) hr h
    rwa [text7] at this
  have HB : Hid (∀ w, Calls Tryd.prog 20 #[.agg #[.int .i64 7, .int .i64 (-12)]] w fun e w' => ∃ B, e = .returned (.tuple #[.slice (some ⟨B, 0, none⟩) 10 10, .int .i64 0]) ∧ Grew w w') := fun w =>
    (bytes_key w 7 (-12) (by omega) hr).mono fun e w' ⟨B, h1, _, _, _, h2⟩ => ⟨B, h1, h2⟩
  have HP : Hid (∀ w, Calls Tryd.prog 18 #[.agg #[.int .i64 7, .int .i64 (-12)], .int .i64 1] w fun e w' => e = .returned (.tuple #[.int .i64 0, .int .i64 0]) ∧ ∃ q os, w' = grow (w.drewN q) os) := fun w => by
    have h := partition_any w 7 (-12) 1 hr
    have e1 : partV (7, -12) 1 = 0 := by unfold partV; rw [if_pos (by decide), if_pos (by decide)]; exact Int.emod_one _
    have e2 : partE (7, -12) 1 = 0 := by unfold partE; rw [if_pos (by decide), if_pos (by decide)]
    rwa [e1, e2] at h
  have HC : Hid (∀ w, Calls Tryd.prog 21 #[.agg #[.int .i64 7, .int .i64 (-12)]] w fun e w' => e = .returned (.int .i64 0) ∧ ∃ q os, w' = grow (w.drewN q) os) := fun w => by
    have h := check_any w 7 (-12)
    rwa [show isKey (7, -12) = true by decide] at h
  clear hv hr
  go_enter Tryd.func5, Tryd.ntmps5
  go_wp2_with fail
  have B0 : Hid (Box (w.alloc (.cells #[.int .i64 7, .int .i64 (-12)] 24)) w.heap.size 7 (-12)) := Box.new rfl
  have HG : Hid (Grew w (w.alloc (.cells #[.int .i64 7, .int .i64 (-12)] 24))) := (Grew.refl _).alloc _
  generalize w.alloc (.cells #[.int .i64 7, .int .i64 (-12)] 24) = W at *
  refine (HT.out W (HV.out.kept HG.out.below)).mono ?_
  rintro e w1 ⟨rfl, g1⟩
  have B1 : Hid (Box w1 w.heap.size 7 (-12)) := B0.out.grew g1
  have HG1 : Hid (Grew w w1) := HG.out.trans g1
  clear g1 HT HV B0 HG
  obtain ⟨p1, p2⟩ := B1.out
  go_wp2_with fail
  refine (HB.out w1).mono ?_
  rintro e w2 ⟨B, rfl, g2⟩
  have B2 : Hid (Box w2 w.heap.size 7 (-12)) := B1.out.grew g2
  have HG2 : Hid (Grew w w2) := HG1.out.trans g2
  clear g2 HB B1 HG1 p1 p2
  obtain ⟨p1, p2⟩ := B2.out
  go_wp2_with fail
  refine (HP.out w2).mono ?_
  rintro e w3 ⟨rfl, g3⟩
  have B3 : Hid (Box w3 w.heap.size 7 (-12)) := B2.out.grew g3
  have HG3 : Hid (Grew w w3) := HG2.out.trans g3
  clear g3 HP B2 HG2 p1 p2
  obtain ⟨p1, p2⟩ := B3.out
  go_wp2_with (first
    | (go_at_call 9; refine (num_any _ _).mono ?_; rintro e w' ⟨rfl, rfl⟩)
    | (go_at_call 21; refine (HC.out _).mono ?_; rintro e w4 ⟨rfl, g4⟩))
  go_ret
  exact ⟨rfl, HG3.out.trans g4⟩

end Go.Proofs.YtnjgaibcpcpmcacDoor
