/-
  SOURCE: the document's Own. By gen_srown.py.
-/
import Derived.Test.YtlabofafmcbfmaaGreatDoorSrWord
namespace Go.Proofs.YtlabofafmcbfmaaGreatDoor
open Go.RowKit Go.Sort Go.Shelf

theorem own_at (i : Nat) (hi : i < 17) (W : World) (O : Nat) (h : W.heap[O]? = some (.cells #[.string ⟨#[99, 111, 110, 115, 116]⟩, .string ⟨#[112, 114, 111, 99]⟩, .string ⟨#[114, 101, 97, 100, 115]⟩, .string ⟨#[119, 114, 105, 116, 101, 115]⟩, .string ⟨#[108, 101, 116]⟩, .string ⟨#[112, 117, 116]⟩, .string ⟨#[100, 101, 108]⟩, .string ⟨#[111, 117, 116]⟩, .string ⟨#[97, 98, 111, 114, 116]⟩, .string ⟨#[115, 116, 111, 112]⟩, .string ⟨#[105, 102]⟩, .string ⟨#[101, 108, 115, 101]⟩, .string ⟨#[114, 101, 112, 101, 97, 116]⟩, .string ⟨#[103, 101, 116]⟩, .string ⟨#[104, 97, 115]⟩, .string ⟨#[109, 105, 110]⟩, .string ⟨#[109, 97, 120]⟩, .string ⟨#[]⟩] 60 (0, 0))) : W.cell? ⟨O, i, none⟩ = some (.string (S ownL[i]!)) := by
  obtain rfl | rfl | rfl | rfl | rfl | rfl | rfl | rfl | rfl | rfl | rfl | rfl | rfl | rfl | rfl | rfl | rfl : i = 0 ∨ i = 1 ∨ i = 2 ∨ i = 3 ∨ i = 4 ∨ i = 5 ∨ i = 6 ∨ i = 7 ∨ i = 8 ∨ i = 9 ∨ i = 10 ∨ i = 11 ∨ i = 12 ∨ i = 13 ∨ i = 14 ∨ i = 15 ∨ i = 16 := by omega
  all_goals
    simp [World.cell?, h, ownL]
    try rfl
theorem own_yes {i : Nat} (hi : i < 17) {t : List UInt8} (h : ownL[i]! = t) : isOwn t = true := by
  unfold isOwn
  rw [List.contains_iff_mem, ← h]
  have hl : i < ownL.length := hi
  rw [getElem!_pos ownL i hl]
  exact List.getElem_mem hl
theorem own_no {t : List UInt8} (h : ∀ i, i < 17 → ownL[i]! ≠ t) : isOwn t = false := by
  cases hc : isOwn t with
  | false => rfl
  | true =>
    exfalso
    unfold isOwn at hc
    rw [List.contains_iff_mem] at hc
    obtain ⟨i, hi, e⟩ := List.getElem_of_mem hc
    exact h i hi (by rw [getElem!_pos ownL i hi]; exact e)
set_option maxRecDepth 100000 in
set_option maxHeartbeats 2000000 in
theorem own_any (w : World) (t : List UInt8) : Calls Tryz.prog 11 #[.string (S t)] w fun e w' => e = .returned (.bool (isOwn t)) ∧ Grew w w' := by
  obtain ⟨W1, hW1⟩ : ∃ W1, W1 = w.alloc (.cells #[.string ⟨#[99, 111, 110, 115, 116]⟩, .string ⟨#[112, 114, 111, 99]⟩, .string ⟨#[114, 101, 97, 100, 115]⟩, .string ⟨#[119, 114, 105, 116, 101, 115]⟩, .string ⟨#[108, 101, 116]⟩, .string ⟨#[112, 117, 116]⟩, .string ⟨#[100, 101, 108]⟩, .string ⟨#[111, 117, 116]⟩, .string ⟨#[97, 98, 111, 114, 116]⟩, .string ⟨#[115, 116, 111, 112]⟩, .string ⟨#[105, 102]⟩, .string ⟨#[101, 108, 115, 101]⟩, .string ⟨#[114, 101, 112, 101, 97, 116]⟩, .string ⟨#[103, 101, 116]⟩, .string ⟨#[104, 97, 115]⟩, .string ⟨#[109, 105, 110]⟩, .string ⟨#[109, 97, 120]⟩, .string ⟨#[]⟩] 60) := ⟨_, rfl⟩
  obtain ⟨O, hO⟩ : ∃ O, O = w.heap.size := ⟨_, rfl⟩
  have HG : Hid (Grew w W1) := by show Grew w W1; rw [hW1]; exact (Grew.refl w).alloc _
  have HC : Hid (∀ i, i < 17 → W1.cell? ⟨O, i, none⟩ = some (.string (S ownL[i]!))) := fun i hi => own_at i hi W1 O (by rw [hW1, hO]; exact heap_alloc_new _ _ rfl)
  have hts := S_toList t
  go_enter Tryz.func11, Tryz.ntmps11
  go_wp2_with fail
  rw [← hW1, ← hO]
  clear hW1 hO
  go_loopw [4] (fun x wr => ∃ (i : Nat), i ≤ 17 ∧ x = .int .i64 (i : Int) ∧ wr = W1 ∧ Hid (∀ j, j < i → ownL[j]! ≠ t)) (fun x _ => 17 - (intOf x).toNat)
  case atStart => exact ⟨0, by omega, rfl, rfl, fun j hj => by omega⟩
  case round =>
    obtain ⟨i, hi, rfl, hwe, HI⟩ := hrel
    subst hwe
    by_cases hlt : i < 17
    · have c0 := HC.out i hlt
      have htu := S_toList ownL[i]!
      have hiI : (i : Int) < 17 := by omega
      by_cases hq : ownL[i]! = t
      · have hb : ((S ownL[i]!).toList == (S t).toList) = true := by rw [htu, hts, hq]; simp
        have HF : Hid (isOwn t = true) := own_yes hlt hq
        clear hq htu hts
        generalize S ownL[i]! = u at *
        go_wp2_with fail
        go_ret
        exact ⟨by rw [HF.out]; rfl, HG.out⟩
      · have hb : ((S ownL[i]!).toList == (S t).toList) = false := by rw [htu, hts]; simpa using hq
        have HF : Hid (∀ j, j < i + 1 → ownL[j]! ≠ t) := fun j hj => by
          by_cases hj2 : j < i
          · exact HI.out j hj2
          · obtain rfl : j = i := by omega
            exact hq
        clear hq htu hts HI
        generalize S ownL[i]! = u at *
        go_wp2_with fail
        go_roundw
        case rel => exact ⟨i + 1, by omega, by go_num, trivial, HF⟩
        case measure => simp [intOf]; omega
    · have HF : Hid (isOwn t = false) := own_no (fun j hj => HI.out j (by omega))
      have hiI : ¬ (i : Int) < 17 := by omega
      clear HI hlt
      go_wp2_with fail
      go_ret
      exact ⟨by rw [HF.out]; rfl, HG.out⟩
end Go.Proofs.YtlabofafmcbfmaaGreatDoor
