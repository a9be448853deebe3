import Derived.Shelf.LaysM
import Derived.Shelf.Strconv.Itoa4
import Derived.Shelf.LaysC
import Derived.Shelf.Strconv.ErrVarParseInt
import Derived.Test.YtkjmeknaedapjaaDoorProg
import Derived.Test.YtkjmeknaedapjaaDoorK25
import Derived.Test.YtkjmeknaedapjaaDoorK17
import Derived.Lib.ItoaMem
import Derived.Test.YtkjmeknaedapjaaDoorK01
/-
  THE LIBRARY's CONTRACTS OF strconv AT THIS DUMP: two tables of numbers and two theorems of closed facts, by program.
-/
namespace Go.Proofs.YtkjmeknaedapjaaDoor
open Go.Shelf
def laysM173_ren : Go.Shelf.Ren := ⟨fun | 173 => 101 | 246 => 108 | 283 => 110 | 284 => 111 | 285 => 112 | 286 => 113 | 129 => 117 | 317 => 116 | 318 => 118 | 319 => 119 | 320 => 120 | 337 => 121 | 338 => 122 | n => n, fun | 2 => 2 | 3 => 3 | 9 => 9 | 4 => 4 | 171 => 151 | 0 => 0 | 53 => 65 | 37 => 23 | 5 => 5 | 173 => 154 | 212 => 161 | 51 => 30 | 20 => 20 | 213 => 162 | 46 => 98 | 232 => 165 | 233 => 166 | n => n, fun | 17 => 3 | 18 => 4 | 19 => 5 | n => n⟩
theorem laysM173 : Go.Proofs.LaysM.n173 Tryd.prog laysM173_ren := {
  mixed := by kernel_rfl
  f129 := Tryd.func117.trans (congrArg some (by kernel_rfl))
  f173 := Tryd.func101.trans (congrArg some (by kernel_rfl))
  f246 := Tryd.func108.trans (congrArg some (by kernel_rfl))
  f283 := Tryd.func110.trans (congrArg some (by kernel_rfl))
  f284 := Tryd.func111.trans (congrArg some (by kernel_rfl))
  f285 := Tryd.func112.trans (congrArg some (by kernel_rfl))
  f286 := Tryd.func113.trans (congrArg some (by kernel_rfl))
  f317 := Tryd.func116.trans (congrArg some (by kernel_rfl))
  f318 := Tryd.func118.trans (congrArg some (by kernel_rfl))
  f319 := Tryd.func119.trans (congrArg some (by kernel_rfl))
  f320 := Tryd.func120.trans (congrArg some (by kernel_rfl))
  f337 := Tryd.func121.trans (congrArg some (by kernel_rfl))
  f338 := Tryd.func122.trans (congrArg some (by kernel_rfl))
  t0 := Tryd.underlying0
  a0 := Tryd.isAgg0
  z0 := Tryd.sizeOf0
  v0 := Tryd.zeroValue0
  t2 := Tryd.underlying2
  a2 := Tryd.isAgg2
  z2 := Tryd.sizeOf2
  v2 := Tryd.zeroValue2
  t3 := Tryd.underlying3
  a3 := Tryd.isAgg3
  z3 := Tryd.sizeOf3
  v3 := Tryd.zeroValue3
  t4 := Tryd.underlying4
  a4 := Tryd.isAgg4
  z4 := Tryd.sizeOf4
  v4 := Tryd.zeroValue4
  t5 := Tryd.underlying5
  a5 := Tryd.isAgg5
  z5 := Tryd.sizeOf5
  v5 := Tryd.zeroValue5
  t9 := Tryd.underlying9
  a9 := Tryd.isAgg9
  z9 := Tryd.sizeOf9
  v9 := Tryd.zeroValue9
  t20 := Tryd.underlying20
  a20 := Tryd.isAgg20
  z20 := Tryd.sizeOf20
  v20 := Tryd.zeroValue20
  t37 := Tryd.underlying23
  a37 := Tryd.isAgg23
  z37 := Tryd.sizeOf23
  v37 := Tryd.zeroValue23
  t46 := Tryd.underlying98
  a46 := Tryd.isAgg98
  z46 := Tryd.sizeOf98
  v46 := Tryd.zeroValue98
  t51 := Tryd.underlying30
  a51 := Tryd.isAgg30
  z51 := Tryd.sizeOf30
  v51 := Tryd.zeroValue30
  t53 := Tryd.underlying65
  a53 := Tryd.isAgg65
  z53 := Tryd.sizeOf65
  v53 := Tryd.zeroValue65
  t171 := Tryd.underlying151
  a171 := Tryd.isAgg151
  z171 := Tryd.sizeOf151
  v171 := Tryd.zeroValue151
  t173 := Tryd.underlying154
  a173 := Tryd.isAgg154
  z173 := Tryd.sizeOf154
  v173 := Tryd.zeroValue154
  t212 := Tryd.underlying161
  a212 := Tryd.isAgg161
  z212 := Tryd.sizeOf161
  v212 := Tryd.zeroValue161
  t213 := Tryd.underlying162
  a213 := Tryd.isAgg162
  z213 := Tryd.sizeOf162
  t232 := Tryd.underlying165
  a232 := Tryd.isAgg165
  z232 := Tryd.sizeOf165
  v232 := Tryd.zeroValue165
  t233 := Tryd.underlying166
  a233 := Tryd.isAgg166
  z233 := Tryd.sizeOf166
  v233 := Tryd.zeroValue166
  g17 := by kernel_rfl
  g18 := by kernel_rfl
  g19 := by kernel_rfl
  i0 := by kernel_rfl
  i2 := by kernel_rfl
  i3 := by kernel_rfl
  i4 := by kernel_rfl
  i5 := by kernel_rfl
  i9 := by kernel_rfl
  i20 := by kernel_rfl
  i37 := by kernel_rfl
  i46 := by kernel_rfl
  i51 := by kernel_rfl
  i53 := by kernel_rfl
  i171 := by kernel_rfl
  i173 := by kernel_rfl
  i212 := by kernel_rfl
  i232 := by kernel_rfl
  i233 := by kernel_rfl
  m17 := by kernel_rfl
  m18 := by kernel_rfl
  m19 := by kernel_rfl }
end Go.Proofs.YtkjmeknaedapjaaDoor
/-
  THE LIBRARY's TABLE OF POWERS OF TEN; codec.Digits.
-/
namespace Go.Proofs.YtkjmeknaedapjaaDoor
open Go.RowKit Go.Shelf

theorem byteList (s : ByteArray) : s.toList = s.data.toList := ByteArray.toList_eq s
/-- what the library's table holds -/
def DigVars (w : World) : Prop := Lib.TabIs Tryd.prog w "internal/strconv.uint64pow10" .u64 Lib.pow10Tab
theorem var_lt {P : Program} {w : World} {n : String} {cs : Array Value} {g : Nat} (hg : P.globalNamed n = some g) (h : w.var? P n = some cs) : g < w.heap.size := by
  unfold World.var? at h
  rw [hg, Option.bind_some] at h
  by_cases hlt : g < w.heap.size
  · exact hlt
  · have hn : w.heap[g]? = none := Array.getElem?_eq_none_iff.2 (by omega)
    rw [hn] at h; cases h
theorem var_kept {w w1 : World} {n : String} {cs : Array Value} {g : Nat} (hg : Tryd.prog.globalNamed n = some g) (h : w.var? Tryd.prog n = some cs) (hb : Below w.heap.size w w1) : w1.var? Tryd.prog n = some cs :=
  var?_below hb hg (var_lt hg h) h
theorem gPow : Tryd.prog.globalNamed "internal/strconv.uint64pow10" = some 3 := by kernel_rfl
theorem DigVars.kept {w w1 : World} (h : DigVars w) (hb : Below w.heap.size w w1) : DigVars w1 := var_kept gPow h hb

theorem grow_below (w : World) (k : Nat) (os : Array Obj) : Below w.heap.size w (Sort.grow (w.drewN k) os) :=
  ⟨rfl, rfl, rfl, by simp [Sort.grow], fun i hi => by simp [Sort.grow]; rw [Array.getElem?_append_left hi]⟩

theorem formatInt_any (w : World) (n : Int) (h0 : -9223372036854775808 ≤ n) (h1 : n ≤ 9223372036854775807) (hv : DigVars w) :
    Calls Tryd.prog 101 #[.int .i64 n, .int .i64 10] w fun e w' => e = .returned (.string ⟨(Lib.itoa n).toArray⟩) ∧ Below w.heap.size w w' := by
  refine (show Calls Tryd.prog 101 #[.int .i64 n, .int .i64 10] w _ from Any.strconv_FormatInt_10 laysM173 n h0 h1 w hv).mono ?_
  rintro e w' ⟨rfl, k, os, rfl⟩
  exact ⟨rfl, grow_below w k os⟩

end Go.Proofs.YtkjmeknaedapjaaDoor
/-
  THE WALK OF preluderef01.Digits.
-/
namespace Go.Proofs.YtkjmeknaedapjaaDoor
open Go.RowKit Go.Sort

def str (l : List UInt8) : Value := .string ⟨l.toArray⟩
/-- what the loop holds: the digits that are still to come, and those that are there -/
def Tail (u r : Nat) (l : List UInt8) : Prop := if r = 0 then l = Lib.decDigits u else Lib.decDigits r ++ l = Lib.decDigits u
theorem Tail.step {u r : Nat} {l : List UInt8} (h : Tail u r l) (hr : r ≠ 0) : Tail u (r / 10) (UInt8.ofNat (48 + r % 10) :: l) := by
  unfold Tail at *
  rw [if_neg hr] at h
  by_cases h10 : r < 10
  · rw [if_pos (by omega), ← h, Lib.decDigits_one h10, show r % 10 = r by omega]; rfl
  · rw [if_neg (by omega), ← h, Dec.decDigits_rec r h10, List.append_assoc]; rfl

theorem Tail.le {u r : Nat} {l : List UInt8} (h : Tail u r l) (hu : u ≤ 9223372036854775808) : l.length ≤ 19 := by
  have hl := Dec.len_digits u hu
  unfold Tail at h
  split at h
  · rw [h]; exact hl
  · rw [← h, List.length_append] at hl; omega

theorem one_string (w : World) (q : Nat) : (convert 23 9 (.slice (some ⟨w.heap.size, 0, none⟩) 1 1)).run Tryd.prog (w.alloc (.cells #[.int .u8 (48 + (q : Int) % 10)] 5)) =
    .ok (.string ⟨[UInt8.ofNat (48 + q % 10)].toArray⟩) (w.alloc (.cells #[.int .u8 (48 + (q : Int) % 10)] 5)) := by
  refine run_convert_bytes_back (P := Tryd.prog) _ 23 9 5 ⟨w.heap.size, 0, none⟩ 1 [UInt8.ofNat (48 + q % 10)] Tryd.underlying23 Tryd.underlying5 Tryd.underlying9 ?_
  intro j hj
  obtain rfl : j = 0 := by simp at hj; omega
  have e : (⟨w.heap.size, 0, none⟩ : Addr).add 0 = ⟨w.heap.size, 0, none⟩ := rfl
  rw [e, World.cell?_alloc_at _ _ _ _ rfl]
  simp only [List.getElem_cons_zero, Dec.digit_toNat (q % 10) (by omega)]
  simp

/-- the loop, from a number above nought on -/
theorem cat (c : UInt8) (l : List UInt8) : (ByteArray.mk #[c] ++ ByteArray.mk l.toArray) = ByteArray.mk (c :: l).toArray := by
  have := ByteArray.mk_append_mk [c] l
  simpa using this
theorem d48 (x : Nat) : (48 : UInt8) + UInt8.ofNat x = UInt8.ofNat (48 + x) := by rw [UInt8.ofNat_add]; rfl
theorem size_mk (l : List UInt8) : (ByteArray.mk l.toArray).size = l.length := by simp [ByteArray.size]

set_option maxHeartbeats 400000 in
theorem refDigits_pos (w : World) (u : Nat) (h0 : 0 < u) (h1 : u ≤ 9223372036854775807) :
    Calls Tryd.prog 74 #[.int .i64 (u : Int)] w fun e w' => e = .returned (str (Lib.decDigits u)) ∧ Grew w w' := by
  have hz : ((u : Int) == 0) = false := by rw [beq_eq_false_iff_ne]; omega
  have hst := one_string
  go_enter Tryd.func74, Tryd.ntmps74
  go_wp2
  go_loopw [4, 5] (fun r s wr => ∃ (q : Nat) (l : List UInt8), r = .int .u64 (q : Int) ∧ s = .string ⟨l.toArray⟩ ∧ q ≤ u ∧ Hid (Tail u q l) ∧ Hid (Grew w wr)) (fun r _ _ => (intOf r).toNat)
  case atStart => exact ⟨u, [], rfl, rfl, Nat.le_refl _, by unfold Tail; rw [Hid, if_neg (by omega), List.append_nil], Grew.refl _⟩
  case round =>
    obtain ⟨q, l, rfl, rfl, hq, ht, hb⟩ := hrel
    by_cases hr : q = 0
    · subst hr
      have HL : Hid (l = Lib.decDigits u) := by have := ht.out; unfold Tail at this; rwa [if_pos rfl] at this
      have hl := ht.out.le (by omega)
      have hs : ¬ ((ByteArray.mk #[]).size + (ByteArray.mk l.toArray).size > 9223372036854775807) := by rw [size_mk]; simp [ByteArray.size]; omega
      go_wp2
      go_ret
      exact ⟨by rw [← HL.out]; simp [str, ByteArray.mk_append_mk], hb.out⟩
    · have hq0 : (0 : Int) < (q : Int) := by omega
      have hl := ht.out.le (by omega)
      have hs : ¬ ((ByteArray.mk #[UInt8.ofNat (48 + q % 10)]).size + (ByteArray.mk l.toArray).size > 9223372036854775807) := by rw [size_mk]; simp [ByteArray.size]; omega
      have HB' := hb.out
      go_wp2
      go_roundw
      case rel => exact ⟨q / 10, UInt8.ofNat (48 + q % 10) :: l, by go_num, by rw [d48, cat], by omega, ht.out.step hr, hb.out.alloc _⟩
      case measure => simp [intOf]; omega

set_option maxHeartbeats 400000 in
theorem refDigits_neg (w : World) (u : Nat) (h0 : 0 < u) (h1 : u ≤ 9223372036854775808) :
    Calls Tryd.prog 74 #[.int .i64 (-(u : Int))] w fun e w' => e = .returned (str (45 :: Lib.decDigits u)) ∧ Grew w w' := by
  have hz : (-(u : Int) == 0) = false := by rw [beq_eq_false_iff_ne]; omega
  have hst := one_string
  go_enter Tryd.func74, Tryd.ntmps74
  go_wp2
  go_loopw [4, 5] (fun r s wr => ∃ (q : Nat) (l : List UInt8), r = .int .u64 (q : Int) ∧ s = .string ⟨l.toArray⟩ ∧ q ≤ u ∧ Hid (Tail u q l) ∧ Hid (Grew w wr)) (fun r _ _ => (intOf r).toNat)
  case atStart => exact ⟨u, [], by go_num, rfl, Nat.le_refl _, by unfold Tail; rw [Hid, if_neg (by omega), List.append_nil], Grew.refl _⟩
  case round =>
    obtain ⟨q, l, rfl, rfl, hq, ht, hb⟩ := hrel
    by_cases hr : q = 0
    · subst hr
      have HL : Hid (l = Lib.decDigits u) := by have := ht.out; unfold Tail at this; rwa [if_pos rfl] at this
      have hl := ht.out.le (by omega)
      have hs : ¬ ((ByteArray.mk #[45]).size + (ByteArray.mk l.toArray).size > 9223372036854775807) := by rw [size_mk]; simp [ByteArray.size]; omega
      go_wp2
      go_ret
      exact ⟨by rw [← HL.out]; simp [str, cat], hb.out⟩
    · have hq0 : (0 : Int) < (q : Int) := by omega
      have hl := ht.out.le (by omega)
      have hs : ¬ ((ByteArray.mk #[UInt8.ofNat (48 + q % 10)]).size + (ByteArray.mk l.toArray).size > 9223372036854775807) := by rw [size_mk]; simp [ByteArray.size]; omega
      go_wp2
      go_roundw
      case rel => exact ⟨q / 10, UInt8.ofNat (48 + q % 10) :: l, by go_num, by rw [d48, cat], by omega, ht.out.step hr, hb.out.alloc _⟩
      case measure => simp [intOf]; omega

/-- preluderef01.Digits, at every int64. -/
theorem refDigits_any (w : World) (n : Int) (h0 : -9223372036854775808 ≤ n) (h1 : n ≤ 9223372036854775807) :
    Calls Tryd.prog 74 #[.int .i64 n] w fun e w' => e = .returned (.string ⟨(Lib.itoa n).toArray⟩) ∧ Grew w w' := by
  by_cases hn : n < 0
  · obtain ⟨u, hu⟩ : ∃ u : Nat, n = -(u : Int) := ⟨n.natAbs, by omega⟩
    subst hu
    rw [Lib.itoa_neg u (by omega)]
    exact refDigits_neg w u (by omega) (by omega)
  · obtain ⟨u, rfl⟩ := Int.eq_ofNat_of_zero_le (show 0 ≤ n by omega)
    rw [Lib.itoa_nonneg]
    by_cases hz : u = 0
    · subst hz
      go_enter Tryd.func74, Tryd.ntmps74
      go_wp2
      go_ret
      exact ⟨by rw [Lib.decDigits_one (by omega)]; rfl, Grew.refl _⟩
    · exact refDigits_pos w u (by omega) (by omega)

end Go.Proofs.YtkjmeknaedapjaaDoor
