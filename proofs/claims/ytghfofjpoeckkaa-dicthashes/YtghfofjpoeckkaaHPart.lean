/-
  Part, AT EACH HASH FUNCTION.
-/
import Derived.Test.YtghfofjpoeckkaaHNew
namespace Go.Proofs.Ytghfofjpoeckkaa
open Go.RowKit Go.Sort

set_option maxRecDepth 100000 in
set_option maxHeartbeats 1000000 in
theorem part_nil (hh : K → Nat) (hok : HashOK 11 hh) (h64 : ∀ k, KIn k → hh k < 18446744073709551616) (w : World) (D M L P : Nat) (es : List En) (k : K) (hki : KIn k) (h : DA w D M L (hfn 11) P es) :
    Calls Try.prog 15 #[ptr D, kv k] w fun e w' => e = .returned (.int .i64 ((hh k % P : Nat) : Int)) ∧ Below w.heap.size w w' := by
  have HD : Hid (DA w D M L (hfn 11) P es) := h
  have hP := h.P0
  have hlt := h64 k hki
  have HK : Hid (∀ w, Calls Try.prog 11 #[.string k] w fun e w' => e = .returned (.int .u64 ((hh k : Nat) : Int)) ∧ Grew w w') := fun w => hok w k hki
  generalize hh k = hv at *
  have HDv : Hid (((hv : Nat) : Int) % (P : Int) = ((hv % P : Nat) : Int)) := by rw [Hid]; simp
  have hm : (hv : Int) % (P : Int) < 256 := by have := Int.emod_lt_of_pos (hv : Int) (show (0 : Int) < P by omega); omega
  have hm0 : 0 ≤ (hv : Int) % (P : Int) := Int.emod_nonneg _ (by omega)
  obtain ⟨c0, _, c2⟩ := HD.out.cells
  clear h hok h64
  go_enter Try.func15, Try.ntmps15
  go_wp2_with fail
  have g0 : ∀ m os, (grow (w.drewN m) os).cell? ⟨D, 0, none⟩ = some (hfn 11) := fun m os => Grew.cell ⟨m, os, rfl⟩ c0
  have g2 : ∀ m os, (grow (w.drewN m) os).cell? ⟨D, 2, none⟩ = some (.slice (some ⟨L, 0, none⟩) P P) := fun m os => Grew.cell ⟨m, os, rfl⟩ c2
  clear c0 c2
  refine wp_region_quiet_grown mixed (by kernel_rfl) ?_
  repeat (go_big_quiet_step (exact Calls.grown_of (HK.out _)))
  refine wpQuiet_nil ?_
  intro _ hw'
  obtain ⟨⟨nq, osq⟩, hw''⟩ := hw'
  subst hw''
  have HF : Hid (Below w.heap.size w (grow (w.drewN nq) osq)) := Grew.below ⟨nq, osq, rfl⟩
  go_wp2
  go_ret
  exact ⟨by rw [← HDv.out]; rfl, HF.out⟩
set_option maxRecDepth 100000 in
set_option maxHeartbeats 1000000 in
theorem part_short (hh : K → Nat) (hok : HashOK 5 hh) (h64 : ∀ k, KIn k → hh k < 18446744073709551616) (w : World) (D M L P : Nat) (es : List En) (k : K) (hki : KIn k) (h : DA w D M L (hfn 5) P es) :
    Calls Try.prog 15 #[ptr D, kv k] w fun e w' => e = .returned (.int .i64 ((hh k % P : Nat) : Int)) ∧ Below w.heap.size w w' := by
  have HD : Hid (DA w D M L (hfn 5) P es) := h
  have hP := h.P0
  have hlt := h64 k hki
  have HK : Hid (∀ w, Calls Try.prog 5 #[.string k] w fun e w' => e = .returned (.int .u64 ((hh k : Nat) : Int)) ∧ Grew w w') := fun w => hok w k hki
  generalize hh k = hv at *
  have HDv : Hid (((hv : Nat) : Int) % (P : Int) = ((hv % P : Nat) : Int)) := by rw [Hid]; simp
  have hm : (hv : Int) % (P : Int) < 256 := by have := Int.emod_lt_of_pos (hv : Int) (show (0 : Int) < P by omega); omega
  have hm0 : 0 ≤ (hv : Int) % (P : Int) := Int.emod_nonneg _ (by omega)
  obtain ⟨c0, _, c2⟩ := HD.out.cells
  clear h hok h64
  go_enter Try.func15, Try.ntmps15
  go_wp2_with fail
  have g0 : ∀ m os, (grow (w.drewN m) os).cell? ⟨D, 0, none⟩ = some (hfn 5) := fun m os => Grew.cell ⟨m, os, rfl⟩ c0
  have g2 : ∀ m os, (grow (w.drewN m) os).cell? ⟨D, 2, none⟩ = some (.slice (some ⟨L, 0, none⟩) P P) := fun m os => Grew.cell ⟨m, os, rfl⟩ c2
  clear c0 c2
  refine wp_region_quiet_grown mixed (by kernel_rfl) ?_
  repeat (go_big_quiet_step (exact Calls.grown_of (HK.out _)))
  refine wpQuiet_nil ?_
  intro _ hw'
  obtain ⟨⟨nq, osq⟩, hw''⟩ := hw'
  subst hw''
  have HF : Hid (Below w.heap.size w (grow (w.drewN nq) osq)) := Grew.below ⟨nq, osq, rfl⟩
  go_wp2
  go_ret
  exact ⟨by rw [← HDv.out]; rfl, HF.out⟩
set_option maxRecDepth 100000 in
set_option maxHeartbeats 1000000 in
theorem part_long (hh : K → Nat) (hok : HashOK 6 hh) (h64 : ∀ k, KIn k → hh k < 18446744073709551616) (w : World) (D M L P : Nat) (es : List En) (k : K) (hki : KIn k) (h : DA w D M L (hfn 6) P es) :
    Calls Try.prog 15 #[ptr D, kv k] w fun e w' => e = .returned (.int .i64 ((hh k % P : Nat) : Int)) ∧ Below w.heap.size w w' := by
  have HD : Hid (DA w D M L (hfn 6) P es) := h
  have hP := h.P0
  have hlt := h64 k hki
  have HK : Hid (∀ w, Calls Try.prog 6 #[.string k] w fun e w' => e = .returned (.int .u64 ((hh k : Nat) : Int)) ∧ Grew w w') := fun w => hok w k hki
  generalize hh k = hv at *
  have HDv : Hid (((hv : Nat) : Int) % (P : Int) = ((hv % P : Nat) : Int)) := by rw [Hid]; simp
  have hm : (hv : Int) % (P : Int) < 256 := by have := Int.emod_lt_of_pos (hv : Int) (show (0 : Int) < P by omega); omega
  have hm0 : 0 ≤ (hv : Int) % (P : Int) := Int.emod_nonneg _ (by omega)
  obtain ⟨c0, _, c2⟩ := HD.out.cells
  clear h hok h64
  go_enter Try.func15, Try.ntmps15
  go_wp2_with fail
  have g0 : ∀ m os, (grow (w.drewN m) os).cell? ⟨D, 0, none⟩ = some (hfn 6) := fun m os => Grew.cell ⟨m, os, rfl⟩ c0
  have g2 : ∀ m os, (grow (w.drewN m) os).cell? ⟨D, 2, none⟩ = some (.slice (some ⟨L, 0, none⟩) P P) := fun m os => Grew.cell ⟨m, os, rfl⟩ c2
  clear c0 c2
  refine wp_region_quiet_grown mixed (by kernel_rfl) ?_
  repeat (go_big_quiet_step (exact Calls.grown_of (HK.out _)))
  refine wpQuiet_nil ?_
  intro _ hw'
  obtain ⟨⟨nq, osq⟩, hw''⟩ := hw'
  subst hw''
  have HF : Hid (Below w.heap.size w (grow (w.drewN nq) osq)) := Grew.below ⟨nq, osq, rfl⟩
  go_wp2
  go_ret
  exact ⟨by rw [← HDv.out]; rfl, HF.out⟩
def hShort (k : K) : Nat := k.size
theorem hash_short : HashOK 5 hShort := by
  intro w k hk
  have hz : k.size ≤ 9223372036854775807 := by have := hk; unfold KIn maxLen at this; omega
  go_enter Try.func5, Try.ntmps5
  have hw : IntKind.u64.wrap (k.size : Int) = (k.size : Int) := by rw [IntKind.wrap_u64]; omega
  go_wp2
  go_ret
  exact ⟨rfl, Grew.refl w⟩
/-- the byte at a place -/
def chs (s : ByteArray) (i : Nat) : Nat := (s.data.toList.getD i 0).toNat
theorem chs_at (s : ByteArray) (k : Nat) (h : k < s.size) : (s[k].toNat : Int) = (chs s k : Int) := by
  have h' : k < s.data.size := h
  unfold chs
  simp [List.getD_eq_getElem?_getD, Array.getElem?_eq_getElem h']; rfl
theorem chs_lt (s : ByteArray) (k : Nat) : chs s k < 256 := by unfold chs; have := (s.data.toList.getD k 0).toNat_lt; omega
def longN (s : ByteArray) : Nat → Nat
  | 0 => 7
  | i + 1 => (longN s i * 31 + chs s i) % 18446744073709551616
theorem longN_lt (s : ByteArray) (i : Nat) : longN s i < 18446744073709551616 := by
  cases i with
  | zero => show 7 < _; omega
  | succ i => exact Nat.mod_lt _ (by omega)
def hLong (k : K) : Nat := longN k k.size
theorem hash_long : HashOK 6 hLong := by
  intro w k hk
  have hz : k.size ≤ 9223372036854775807 := by have := hk; unfold KIn maxLen at this; omega
  go_enter Try.func6, Try.ntmps6
  go_wp2
  go_loop [3, 4] (fun x y => ∃ i : Nat, i ≤ k.size ∧ x = .int .u64 (longN k i : Int) ∧ y = .int .i64 (i : Int)) (fun _ y => k.size - (intOf y).toNat)
  case atStart => exact ⟨0, Nat.zero_le _, rfl, rfl⟩
  case round =>
    obtain ⟨i, hi, rfl, rfl⟩ := hrel
    by_cases hlt : i < k.size
    · have HC := chs_at k i hlt
      have hc := chs_lt k i
      have hl := longN_lt k i
      have HE : Hid (longN k (i + 1) = (longN k i * 31 + chs k i) % 18446744073709551616) := rfl
      generalize longN k i = n1 at *
      generalize chs k i = c at *
      have hw1 : IntKind.u64.wrap ((n1 : Int) * 31) = (n1 : Int) * 31 % 18446744073709551616 := by rw [IntKind.wrap_u64]
      go_wp2
      go_round
      case rel => exact ⟨i + 1, by omega, by rw [HE.out, IntKind.wrap_u64]; congr 1; omega, by go_num⟩
      case measure => simp [intOf]; omega
    · obtain rfl : i = k.size := by omega
      go_wp2
      go_ret
      exact ⟨rfl, Grew.refl w⟩
end Go.Proofs.Ytghfofjpoeckkaa
