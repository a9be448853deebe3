/-
  NAMES: isLetter, isDigit, isName, the document's Name.
-/
import Derived.Test.YtkpggbjibngplaaLList
namespace Go.Proofs.Ytkpggbjibngplaa
open Go.RowKit Go.Sort

def letB (c : Int) : Bool := (decide (97 ≤ c) && decide (c ≤ 122)) || (decide (65 ≤ c) && decide (c ≤ 90))
def digB (c : Int) : Bool := decide (48 ≤ c) && decide (c ≤ 57)
/-- may a byte stand at a place of a name? -/
def chB (i : Nat) (c : Int) : Bool := letB c || (decide (i ≠ 0) && (digB c || decide (c = 95)))
def chs (s : ByteArray) (i : Nat) : Int := ((s.data.toList.getD i 0).toNat : Int)
def goodN (s : ByteArray) : Nat → Bool
  | 0 => true
  | k + 1 => goodN s k && chB k (chs s k)
def nameB (s : ByteArray) : Bool := decide (0 < s.size) && decide (s.size ≤ 31) && goodN s s.size
theorem chs_at (s : ByteArray) (k : Nat) (h : k < s.size) : (s[k].toNat : Int) = chs s k := by
  have hl : k < s.data.toList.length := by rw [Array.length_toList]; exact h
  unfold chs
  rw [List.getD_eq_getElem?_getD, List.getElem?_eq_getElem hl]; rfl
theorem goodN_false {s : ByteArray} {k n : Nat} (h : chB k (chs s k) = false) (hk : k < n) : goodN s n = false := by
  induction n with
  | zero => omega
  | succ n ih =>
    unfold goodN
    by_cases e : k = n
    · subst e; rw [h]; simp
    · rw [ih (by omega)]; rfl
theorem chs_byte (s : ByteArray) (k : Nat) : 0 ≤ chs s k ∧ chs s k ≤ 255 := by
  unfold chs; have := (s.data.toList.getD k 0).toNat_lt; omega
theorem bool_cases (a b : Bool) : a = true ∨ (a = false ∧ b = true) ∨ (a = false ∧ b = false) := by cases a <;> cases b <;> simp

theorem isLetter_any (w : World) (c : Int) : Calls Try.prog 30 #[.int .u8 c] w fun e w' => e = .returned (.bool (letB c)) ∧ w' = w := by
  by_cases h1 : 97 ≤ c
  · by_cases h2 : c ≤ 122
    · have HE : Hid (letB c = true) := by unfold letB; simp [Hid, h1, h2]
      go_enter Try.func30, Try.ntmps30
      go_wp2
      go_ret
      exact ⟨by rw [HE.out]; rfl, rfl⟩
    · have h3 : 65 ≤ c := by omega
      have h4 : ¬ c ≤ 90 := by omega
      have HE : Hid (letB c = false) := by unfold letB; simp [Hid, h2, h4]
      go_enter Try.func30, Try.ntmps30
      go_wp2
      go_ret
      exact ⟨by rw [HE.out]; rfl, rfl⟩
  · by_cases h3 : 65 ≤ c
    · by_cases h4 : c ≤ 90
      · have HE : Hid (letB c = true) := by unfold letB; simp [Hid, h3, h4]
        go_enter Try.func30, Try.ntmps30
        go_wp2
        go_ret
        exact ⟨by rw [HE.out]; rfl, rfl⟩
      · have HE : Hid (letB c = false) := by unfold letB; simp [Hid, h1, h4]
        go_enter Try.func30, Try.ntmps30
        go_wp2
        go_ret
        exact ⟨by rw [HE.out]; rfl, rfl⟩
    · have HE : Hid (letB c = false) := by unfold letB; simp [Hid, h1, h3]
      go_enter Try.func30, Try.ntmps30
      go_wp2
      go_ret
      exact ⟨by rw [HE.out]; rfl, rfl⟩
theorem isDigit_any (w : World) (c : Int) : Calls Try.prog 31 #[.int .u8 c] w fun e w' => e = .returned (.bool (digB c)) ∧ w' = w := by
  by_cases h1 : 48 ≤ c
  · by_cases h2 : c ≤ 57
    · have HE : Hid (digB c = true) := by unfold digB; simp [Hid, h1, h2]
      go_enter Try.func31, Try.ntmps31
      go_wp2
      go_ret
      exact ⟨by rw [HE.out]; rfl, rfl⟩
    · have HE : Hid (digB c = false) := by unfold digB; simp [Hid, h2]
      go_enter Try.func31, Try.ntmps31
      go_wp2
      go_ret
      exact ⟨by rw [HE.out]; rfl, rfl⟩
  · have HE : Hid (digB c = false) := by unfold digB; simp [Hid, h1]
    go_enter Try.func31, Try.ntmps31
    go_wp2
    go_ret
    exact ⟨by rw [HE.out]; rfl, rfl⟩
set_option maxHeartbeats 1000000 in
theorem isName_any (w : World) (s : ByteArray) (hs : s.size ≤ 281474976710656) : Calls Try.prog 23 #[.string s] w fun e w' => e = .returned (.bool (nameB s)) ∧ w' = w := by
  go_enter Try.func23, Try.ntmps23
  go_wp2
  go_loop [6] (fun x => ∃ k : Nat, k ≤ s.size ∧ x = .int .i64 (k : Int) ∧ Hid (goodN s k = true)) (fun x => s.size - (intOf x).toNat)
  case atStart => exact ⟨0, Nat.zero_le _, rfl, rfl⟩
  case round =>
    obtain ⟨k, hk, rfl, HA⟩ := hrel
    by_cases hlt : k < s.size
    · have HC := chs_at s k hlt
      have HF : Hid (chB k (chs s k) = false → nameB s = false) := fun h => by unfold nameB; rw [goodN_false h hlt]; simp
      have HT : Hid (chB k (chs s k) = true → goodN s (k + 1) = true) := fun h => by unfold goodN; rw [HA.out, h]; rfl
      generalize chs s k = c at *
      cases hl : letB c with
      | true =>
        have HG : Hid (goodN s (k + 1) = true) := HT.out (by unfold chB; rw [hl]; rfl)
        go_wp2_with (first
          | (go_at_call 30; refine (isLetter_any _ c).mono ?_; rintro e w1 ⟨rfl, rfl⟩)
          | (go_at_call 31; refine (isDigit_any _ c).mono ?_; rintro e w1 ⟨rfl, rfl⟩))
        go_round
        case rel => exact ⟨k + 1, by omega, by go_num, HG⟩
        case measure => simp [intOf]; omega
      | false =>
        by_cases h0 : k = 0
        · have HG : Hid (nameB s = false) := HF.out (by unfold chB; rw [hl, h0]; rfl)
          have h0' : ((k : Int) == 0) = true := by rw [h0]; rfl
          clear h0
          go_wp2_with (first
              | (go_at_call 30; refine (isLetter_any _ c).mono ?_; rintro e w1 ⟨rfl, rfl⟩)
              | (go_at_call 31; refine (isDigit_any _ c).mono ?_; rintro e w1 ⟨rfl, rfl⟩))
          go_ret
          exact ⟨by rw [HG.out]; rfl, rfl⟩
        · have h0' : ((k : Int) == 0) = false := by simp; omega
          cases hd : digB c with
          | true =>
            have HG : Hid (goodN s (k + 1) = true) := HT.out (by unfold chB; rw [hl, hd]; simp [h0])
            clear h0
            go_wp2_with (first
              | (go_at_call 30; refine (isLetter_any _ c).mono ?_; rintro e w1 ⟨rfl, rfl⟩)
              | (go_at_call 31; refine (isDigit_any _ c).mono ?_; rintro e w1 ⟨rfl, rfl⟩))
            go_round
            case rel => exact ⟨k + 1, by omega, by go_num, HG⟩
            case measure => simp [intOf]; omega
          | false =>
            by_cases h95 : c = 95
            · have HG : Hid (goodN s (k + 1) = true) := HT.out (by unfold chB; rw [hl, hd]; simp [h0, h95])
              have h95' : (c != 95) = false := by simp [h95]
              clear h0 h95
              go_wp2_with (first
              | (go_at_call 30; refine (isLetter_any _ c).mono ?_; rintro e w1 ⟨rfl, rfl⟩)
              | (go_at_call 31; refine (isDigit_any _ c).mono ?_; rintro e w1 ⟨rfl, rfl⟩))
              go_round
              case rel => exact ⟨k + 1, by omega, by go_num, HG⟩
              case measure => simp [intOf]; omega
            · have HG : Hid (nameB s = false) := HF.out (by unfold chB; rw [hl, hd]; simp [h95])
              have h95' : (c != 95) = true := by simpa using h95
              clear h0 h95
              go_wp2_with (first
              | (go_at_call 30; refine (isLetter_any _ c).mono ?_; rintro e w1 ⟨rfl, rfl⟩)
              | (go_at_call 31; refine (isDigit_any _ c).mono ?_; rintro e w1 ⟨rfl, rfl⟩))
              go_ret
              exact ⟨by rw [HG.out]; rfl, rfl⟩
    · obtain rfl : k = s.size := by omega
      have hN : nameB s = (decide (0 < s.size) && decide (s.size ≤ 31)) := by unfold nameB; rw [HA.out, Bool.and_true]
      by_cases h1 : 0 < s.size
      · have h1' : (0 : Int) < (s.size : Int) := by omega
        by_cases h2 : s.size ≤ 31
        · have h2' : (s.size : Int) ≤ 31 := by omega
          have HG : Hid (nameB s = true) := by show nameB s = true; rw [hN, decide_eq_true h1, decide_eq_true h2]; rfl
          clear hN
          go_wp2
          go_ret
          exact ⟨by rw [HG.out]; rfl, rfl⟩
        · have h2' : ¬ (s.size : Int) ≤ 31 := by omega
          have h2'' : decide ((s.size : Int) ≤ 31) = false := by simpa using h2'
          have HG : Hid (nameB s = false) := by show nameB s = false; rw [hN, decide_eq_false h2, Bool.and_false]
          clear hN
          go_wp2
          go_ret
          exact ⟨by rw [HG.out]; rfl, rfl⟩
      · have h1' : ¬ (0 : Int) < (s.size : Int) := by omega
        have h1'' : decide ((0 : Int) < (s.size : Int)) = false := by simpa using h1'
        have HG : Hid (nameB s = false) := by show nameB s = false; rw [hN, decide_eq_false h1, Bool.false_and]
        clear hN
        go_wp2
        go_ret
        exact ⟨by rw [HG.out]; rfl, rfl⟩
end Go.Proofs.Ytkpggbjibngplaa
