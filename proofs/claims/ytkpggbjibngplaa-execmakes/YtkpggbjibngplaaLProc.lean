/-
  PROCEDURES IN MEMORY; hasProc, Check.
-/
import Derived.Test.YtkpggbjibngplaaLPrc
import Derived.Test.YtkpggbjibngplaaLDepths
namespace Go.Proofs.Ytkpggbjibngplaa
open Go.RowKit Go.Sort

def hasB (Ps : List Pr) (nm : ByteArray) : Bool := Ps.any fun x => x.name.toList == nm.toList
theorem hasB_take {Ps : List Pr} {nm : ByteArray} {k : Nat} (h : k < Ps.length) : hasB (Ps.take (k + 1)) nm = (hasB (Ps.take k) nm || ((pd Ps k).name.toList == nm.toList)) := by
  unfold hasB; rw [pd_take Ps k h, List.any_append]; simp
theorem hasB_at {Ps : List Pr} {nm : ByteArray} {k : Nat} (h : k < Ps.length) (e : ((pd Ps k).name.toList == nm.toList) = true) : hasB Ps nm = true := by
  unfold hasB; rw [List.any_eq_true]; exact ⟨pd Ps k, pd_mem h, e⟩
def chkOne (Ps : List Pr) (i : Nat) : Int := if nameB (pd Ps i).name = false ∨ hasB (Ps.take i) (pd Ps i).name = true then 35 else verifyN (pd Ps i).p (pd Ps i).L
/-- Check: the place, and the error -/
def checkN (Ps : List Pr) : Nat × Int := if 64 < Ps.length then (0, 36) else firstP (chkOne Ps) Ps.length
theorem checkN_stop {Ps : List Pr} {k : Nat} (hl : Ps.length ≤ 64) (h : ∀ i, i < k → chkOne Ps i = 0) (hk : chkOne Ps k ≠ 0) (hn : k < Ps.length) : checkN Ps = (k, chkOne Ps k) := by
  unfold checkN; rw [if_neg (by omega)]; exact firstP_stop h hk hn
theorem checkN_zero {Ps : List Pr} (hl : Ps.length ≤ 64) (h : ∀ i, i < Ps.length → chkOne Ps i = 0) : checkN Ps = (0, 0) := by
  unfold checkN; rw [if_neg (by omega)]; exact firstP_zero h
theorem chkOne_bad {Ps : List Pr} {i : Nat} (h : nameB (pd Ps i).name = false ∨ hasB (Ps.take i) (pd Ps i).name = true) : chkOne Ps i = 35 := if_pos h
theorem chkOne_good {Ps : List Pr} {i : Nat} (h1 : nameB (pd Ps i).name = true) (h2 : hasB (Ps.take i) (pd Ps i).name = false) : chkOne Ps i = verifyN (pd Ps i).p (pd Ps i).L := if_neg (by rw [h1, h2]; simp)

set_option maxHeartbeats 1000000 in
theorem hasProc_any (w : World) (ao : Option Addr) (n cap : Nat) (Ps : List Pr) (nm : ByteArray) (h : ProcsAt w ao Ps) (hn : n = Ps.length) (hm : n ≤ 1000000) :
    Calls Try.prog 24 #[.slice ao n cap, .string nm] w fun e w' => e = .returned (.bool (hasB Ps nm)) ∧ ∃ q os, w' = grow (w.drewN q) os := by
  have H : Hid (ProcsAt w ao Ps) := h
  have HN : Hid (n = Ps.length) := hn
  clear h hn
  go_enter Try.func24, Try.ntmps24
  go_wp2
  go_loopw [9] (fun x wr => ∃ k : Nat, k ≤ n ∧ x = .int .i64 (k : Int) ∧ Hid (hasB (Ps.take k) nm = false) ∧ Hid (Grew w wr)) (fun x _ => n - (intOf x).toNat)
  case atStart => exact ⟨0, Nat.zero_le _, rfl, rfl, Grew.refl _⟩
  case round =>
    obtain ⟨k, hk, rfl, HA, HG⟩ := hrel
    by_cases hlt : k < n
    · have hlt' : k < Ps.length := by have := HN.out; omega
      obtain ⟨b, off, rfl, c0, c1, c2, c3, c4, c5⟩ := (H.out.grew HG.out).get k hlt'
      have HT : Hid (hasB (Ps.take (k + 1)) nm = (hasB (Ps.take k) nm || ((pd Ps k).name.toList == nm.toList))) := hasB_take hlt'
      have HS : Hid (((pd Ps k).name.toList == nm.toList) = true → hasB Ps nm = true) := hasB_at hlt'
      generalize pd Ps k = x at *
      obtain ⟨xn, ⟨y1, y2, y3, y4⟩, xa, xl, xc, xL⟩ := x
      simp only at c0 c1 c2 c3 c4 c5
      have HG2 : Hid (Grew w (wr.alloc (.cells #[.string xn, .int .i64 y1, .int .i64 y2, .int .i64 y3, .int .i64 y4, .slice xa xl xc] 34))) := HG.out.alloc _
      cases hq : xn.toList == nm.toList with
      | true =>
        have HV : Hid (hasB Ps nm = true) := HS.out hq
        go_wp2
        go_ret
        exact ⟨by rw [HV.out]; rfl, HG2.out⟩
      | false =>
        have HV : Hid (hasB (Ps.take (k + 1)) nm = false) := by rw [HT.out, HA.out, hq]; rfl
        go_wp2
        go_roundw
        case rel => exact ⟨k + 1, by omega, by go_num, HV, HG2⟩
        case measure => simp [intOf]; omega
    · obtain rfl : k = n := by omega
      have HV : Hid (hasB Ps nm = false) := by have := HA.out; rw [HN.out, List.take_length] at this; exact this
      go_wp2
      go_ret
      exact ⟨by rw [HV.out]; rfl, HG.out⟩
end Go.Proofs.Ytkpggbjibngplaa
