/-
  THE WALK OF preluderef01.Digits.
-/
import Derived.Test.YtlabofafmcbfmaaGreatDoorDec
import Derived.Test.YtlabofafmcbfmaaGreatDoorMem
import Derived.Test.YtlabofafmcbfmaaGreatDoorKBase
import Derived.Lib.ItoaMem
namespace Go.Proofs.YtlabofafmcbfmaaGreatDoor
open Go.RowKit Go.Sort

def str (l : List UInt8) : Value := .string ⟨l.toArray⟩
/-- what the loop holds: the digits that are still to come, and those that are there -/
def Tail (u r : Nat) (l : List UInt8) : Prop := if r = 0 then l = Lib.decDigits u else Lib.decDigits r ++ l = Lib.decDigits u
theorem Tail.step {u r : Nat} {l : List UInt8} (h : Tail u r l) (hr : r ≠ 0) : Tail u (r / 10) (UInt8.ofNat (48 + r % 10) :: l) := by
  unfold Tail at *
  rw [if_neg hr] at h
  by_cases h10 : r < 10
  · rw [if_pos (by omega), ← h, Lib.decDigits_one h10, show r % 10 = r by omega]; rfl
  · rw [if_neg (by omega), ← h, Dec.decDigits_rec r h10, List.append_assoc]; rfl

theorem Tail.le {u r : Nat} {l : List UInt8} (h : Tail u r l) (hu : u ≤ 9223372036854775808) : l.length ≤ 19 := by
  have hl := Dec.len_digits u hu
  unfold Tail at h
  split at h
  · rw [h]; exact hl
  · rw [← h, List.length_append] at hl; omega

theorem one_string (w : World) (q : Nat) : (convert 87 9 (.slice (some ⟨w.heap.size, 0, none⟩) 1 1)).run Tryz.prog (w.alloc (.cells #[.int .u8 (48 + (q : Int) % 10)] 5)) =
    .ok (.string ⟨[UInt8.ofNat (48 + q % 10)].toArray⟩) (w.alloc (.cells #[.int .u8 (48 + (q : Int) % 10)] 5)) := by
  refine run_convert_bytes_back (P := Tryz.prog) _ 87 9 5 ⟨w.heap.size, 0, none⟩ 1 [UInt8.ofNat (48 + q % 10)] Tryz.underlying87 Tryz.underlying5 Tryz.underlying9 ?_
  intro j hj
  obtain rfl : j = 0 := by simp at hj; omega
  have e : (⟨w.heap.size, 0, none⟩ : Addr).add 0 = ⟨w.heap.size, 0, none⟩ := rfl
  rw [e, World.cell?_alloc_at _ _ _ _ rfl]
  simp only [List.getElem_cons_zero, Dec.digit_toNat (q % 10) (by omega)]
  simp

/-- the loop, from a number above nought on -/
theorem cat (c : UInt8) (l : List UInt8) : (ByteArray.mk #[c] ++ ByteArray.mk l.toArray) = ByteArray.mk (c :: l).toArray := by
  have := ByteArray.mk_append_mk [c] l
  simpa using this
theorem d48 (x : Nat) : (48 : UInt8) + UInt8.ofNat x = UInt8.ofNat (48 + x) := by rw [UInt8.ofNat_add]; rfl
theorem size_mk (l : List UInt8) : (ByteArray.mk l.toArray).size = l.length := by simp [ByteArray.size]

set_option maxHeartbeats 400000 in
theorem refDigits_pos (w : World) (u : Nat) (h0 : 0 < u) (h1 : u ≤ 9223372036854775807) :
    Calls Tryz.prog 41 #[.int .i64 (u : Int)] w fun e w' => e = .returned (str (Lib.decDigits u)) ∧ Grew w w' := by
  have hz : ((u : Int) == 0) = false := by rw [beq_eq_false_iff_ne]; omega
  have hst := one_string
  go_enter Tryz.func41, Tryz.ntmps41
  go_wp2
  go_loopw [4, 5] (fun r s wr => ∃ (q : Nat) (l : List UInt8), r = .int .u64 (q : Int) ∧ s = .string ⟨l.toArray⟩ ∧ q ≤ u ∧ Hid (Tail u q l) ∧ Hid (Grew w wr)) (fun r _ _ => (intOf r).toNat)
  case atStart => exact ⟨u, [], rfl, rfl, Nat.le_refl _, by unfold Tail; rw [Hid, if_neg (by omega), List.append_nil], Grew.refl _⟩
  case round =>
    obtain ⟨q, l, rfl, rfl, hq, ht, hb⟩ := hrel
    by_cases hr : q = 0
    · subst hr
      have HL : Hid (l = Lib.decDigits u) := by have := ht.out; unfold Tail at this; rwa [if_pos rfl] at this
      have hl := ht.out.le (by omega)
      have hs : ¬ ((ByteArray.mk #[]).size + (ByteArray.mk l.toArray).size > 9223372036854775807) := by rw [size_mk]; simp [ByteArray.size]; omega
      go_wp2
      go_ret
      exact ⟨by rw [← HL.out]; simp [str, ByteArray.mk_append_mk], hb.out⟩
    · have hq0 : (0 : Int) < (q : Int) := by omega
      have hl := ht.out.le (by omega)
      have hs : ¬ ((ByteArray.mk #[UInt8.ofNat (48 + q % 10)]).size + (ByteArray.mk l.toArray).size > 9223372036854775807) := by rw [size_mk]; simp [ByteArray.size]; omega
      have HB' := hb.out
      go_wp2
      go_roundw
      case rel => exact ⟨q / 10, UInt8.ofNat (48 + q % 10) :: l, by go_num, by rw [d48, cat], by omega, ht.out.step hr, hb.out.alloc _⟩
      case measure => simp [intOf]; omega

set_option maxHeartbeats 400000 in
theorem refDigits_neg (w : World) (u : Nat) (h0 : 0 < u) (h1 : u ≤ 9223372036854775808) :
    Calls Tryz.prog 41 #[.int .i64 (-(u : Int))] w fun e w' => e = .returned (str (45 :: Lib.decDigits u)) ∧ Grew w w' := by
  have hz : (-(u : Int) == 0) = false := by rw [beq_eq_false_iff_ne]; omega
  have hst := one_string
  go_enter Tryz.func41, Tryz.ntmps41
  go_wp2
  go_loopw [4, 5] (fun r s wr => ∃ (q : Nat) (l : List UInt8), r = .int .u64 (q : Int) ∧ s = .string ⟨l.toArray⟩ ∧ q ≤ u ∧ Hid (Tail u q l) ∧ Hid (Grew w wr)) (fun r _ _ => (intOf r).toNat)
  case atStart => exact ⟨u, [], by go_num, rfl, Nat.le_refl _, by unfold Tail; rw [Hid, if_neg (by omega), List.append_nil], Grew.refl _⟩
  case round =>
    obtain ⟨q, l, rfl, rfl, hq, ht, hb⟩ := hrel
    by_cases hr : q = 0
    · subst hr
      have HL : Hid (l = Lib.decDigits u) := by have := ht.out; unfold Tail at this; rwa [if_pos rfl] at this
      have hl := ht.out.le (by omega)
      have hs : ¬ ((ByteArray.mk #[45]).size + (ByteArray.mk l.toArray).size > 9223372036854775807) := by rw [size_mk]; simp [ByteArray.size]; omega
      go_wp2
      go_ret
      exact ⟨by rw [← HL.out]; simp [str, cat], hb.out⟩
    · have hq0 : (0 : Int) < (q : Int) := by omega
      have hl := ht.out.le (by omega)
      have hs : ¬ ((ByteArray.mk #[UInt8.ofNat (48 + q % 10)]).size + (ByteArray.mk l.toArray).size > 9223372036854775807) := by rw [size_mk]; simp [ByteArray.size]; omega
      go_wp2
      go_roundw
      case rel => exact ⟨q / 10, UInt8.ofNat (48 + q % 10) :: l, by go_num, by rw [d48, cat], by omega, ht.out.step hr, hb.out.alloc _⟩
      case measure => simp [intOf]; omega

/-- preluderef01.Digits, at every int64. -/
theorem refDigits_any (w : World) (n : Int) (h0 : -9223372036854775808 ≤ n) (h1 : n ≤ 9223372036854775807) :
    Calls Tryz.prog 41 #[.int .i64 n] w fun e w' => e = .returned (.string ⟨(Lib.itoa n).toArray⟩) ∧ Grew w w' := by
  by_cases hn : n < 0
  · obtain ⟨u, hu⟩ : ∃ u : Nat, n = -(u : Int) := ⟨n.natAbs, by omega⟩
    subst hu
    rw [Lib.itoa_neg u (by omega)]
    exact refDigits_neg w u (by omega) (by omega)
  · obtain ⟨u, rfl⟩ := Int.eq_ofNat_of_zero_le (show 0 ≤ n by omega)
    rw [Lib.itoa_nonneg]
    by_cases hz : u = 0
    · subst hz
      go_enter Tryz.func41, Tryz.ntmps41
      go_wp2
      go_ret
      exact ⟨by rw [Lib.decDigits_one (by omega)]; rfl, Grew.refl _⟩
    · exact refDigits_pos w u (by omega) (by omega)

end Go.Proofs.YtlabofafmcbfmaaGreatDoor
