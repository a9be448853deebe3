import Derived.Test.YtkjmeknaedapjaaDoorK25
import Derived.Test.YtkjmeknaedapjaaDoorK26
/-
  A LISTING'S TEXTS: the walks of Digits, labelOf, isJump, instruction.
-/
namespace Go.Proofs.YtkjmeknaedapjaaDoor
open Go.RowKit Go.Sort Go.Shelf

/-- signs as a text -/
def S (l : List UInt8) : ByteArray := ⟨l.toArray⟩
theorem S_app (a b : List UInt8) : S a ++ S b = S (a ++ b) := ByteArray.mk_append_mk a b
theorem S_size (l : List UInt8) : (S l).size = l.length := by simp [S, ByteArray.size]
theorem S_of (s : ByteArray) : S s.data.toList = s := by simp [S]
theorem S_fit (a b : List UInt8) (h : a.length + b.length ≤ 9223372036854775807) : ¬ ((S a).size + (S b).size > 9223372036854775807) := by rw [S_size, S_size]; omega
/-- a number's digits -/
def dg (n : Int) : List UInt8 := Lib.itoa n
theorem dg_len {n : Int} (h : In64 n) : (dg n).length ≤ 20 := by
  unfold dg
  by_cases hn : n < 0
  · obtain ⟨u, hu⟩ : ∃ u : Nat, n = -(u : Int) := ⟨n.natAbs, by omega⟩
    subst hu
    have := Dec.len_digits u (by have := h.1; omega)
    rw [Lib.itoa_neg u (by omega)]; simp; omega
  · obtain ⟨u, rfl⟩ := Int.eq_ofNat_of_zero_le (show 0 ≤ n by omega)
    have := Dec.len_digits u (by have := h.2; omega)
    rw [Lib.itoa_nonneg]; omega
theorem digits_any (w : World) (n : Int) (h : In64 n) (hv : DigVars w) : Calls Tryd.prog 89 #[.int .i64 n] w fun e w' => e = .returned (.string (S (dg n))) ∧ Grew w w' := by
  go_enter Tryd.func89, Tryd.ntmps89
  go_wp2_with fail
  refine (show Calls Tryd.prog 101 #[.int .i64 n, .int .i64 10] w _ from Any.strconv_FormatInt_10 laysM173 n h.1 h.2 w hv).mono ?_
  rintro e w' ⟨rfl, k, os, rfl⟩
  have HG : Hid (Grew w (Sort.grow (w.drewN k) os)) := ⟨k, os, rfl⟩
  go_wp2
  go_ret
  exact ⟨rfl, HG.out⟩
def labelL (n : Int) : List UInt8 := 76 :: dg n
theorem labelL_len {n : Int} (h : In64 n) : (labelL n).length ≤ 21 := by have := dg_len h; simp [labelL]; omega
theorem labelOf_any (w : World) (n : Int) (h : In64 n) (hv : DigVars w) : Calls Tryd.prog 72 #[.int .i64 n] w fun e w' => e = .returned (.string (S (labelL n))) ∧ Grew w w' := by
  have hl := dg_len h
  go_enter Tryd.func72, Tryd.ntmps72
  go_wp2_with fail
  refine (digits_any w n h hv).mono ?_
  rintro e w' ⟨rfl, hg⟩
  have HG : Hid (Grew w w') := hg
  have hs : ¬ ((ByteArray.mk #[76]).size + (S (dg n)).size > 9223372036854775807) := S_fit [76] (dg n) (by simp; omega)
  clear hg
  go_wp2
  go_ret
  exact ⟨by rw [show ByteArray.mk #[76] = S [76] from rfl, S_app]; rfl, HG.out⟩
theorem isJump_any (w : World) (op : Int) : Calls Tryd.prog 88 #[.int .i64 op] w fun e w' => e = .returned (.bool (jumpB op)) ∧ w' = w := by
  go_enter Tryd.func88, Tryd.ntmps88
  by_cases h1 : op = 30
  · subst h1
    go_wp2
    go_ret
    exact ⟨rfl, rfl⟩
  · by_cases h2 : op = 31
    · subst h2
      go_wp2
      go_ret
      exact ⟨rfl, rfl⟩
    · have h1' : (op == 30) = false := by simpa using h1
      have h2' : (op == 31) = false := by simpa using h2
      have HE : Hid (jumpB op = false) := by simp [Hid, jumpB, h1, h2]
      clear h1 h2
      go_wp2
      go_ret
      exact ⟨by rw [HE.out]; rfl, rfl⟩
/-- an instruction's name -/
def sp (op : Int) : List UInt8 := (spellS op).data.toList
theorem sp_len (op : Int) : (sp op).length ≤ 8 := by
  unfold sp
  cases ho : isOpB op with
  | false => rw [spellS_no ho]; simp
  | true =>
    rw [spellS_op ho]
    have ho' := ho
    simp only [isOpB, Bool.and_eq_true, decide_eq_true_eq] at ho'
    obtain ⟨i, rfl⟩ := Int.eq_ofNat_of_zero_le ho'.1
    have hi : i < 37 := by omega
    have : ∀ j : Nat, j < 37 → (nmOf (j : Int)).data.toList.length ≤ 8 := by decide +kernel
    exact this i hi
/-- an instruction, and its argument -/
def instrL (k : K) : List UInt8 := if jumpB k.1 = true then sp k.1 ++ 32 :: labelL k.2 else if wantsB k.1 = true then sp k.1 ++ 32 :: dg k.2 else sp k.1
theorem instrL_len {k : K} (h : KIn k) : (instrL k).length ≤ 40 := by
  have h1 := sp_len k.1
  have h2 := dg_len h.2
  unfold instrL
  split
  · simp [labelL]; omega
  · split
    · simp; omega
    · omega
end Go.Proofs.YtkjmeknaedapjaaDoor
