import Derived.Test.YtcaibgbhebldmaaGreatJ09
import Derived.Test.YtcaibgbhebldmaaGreatJ07
/-
  THE WALKS OF Fail, Err.
-/
namespace Go.Proofs.YtcaibgbhebldmaaGreat
open Go.RowKit

theorem rErr_any (w : World) (r : Nat) (a : Option Addr) (c : Nat) (b : List Nat) (p : Nat) (e : Int) (h : IsReader w r a c b p e) :
    Calls Tryz.prog 96 #[.pointer (some ⟨r, 0, none⟩)] w fun e' w' => e' = .returned (.int .i64 e) ∧ w' = w := by
  have h2 := h.c2
  clear h
  go_enter Tryz.func96, Tryz.ntmps96
  go_wp2
  go_ret
  exact ⟨rfl, rfl⟩
end Go.Proofs.YtcaibgbhebldmaaGreat
/-
  THE WALK OF At.
-/
namespace Go.Proofs.YtcaibgbhebldmaaGreat
open Go.RowKit

theorem rAt_any (w : World) (r : Nat) (a : Option Addr) (c : Nat) (b : List Nat) (p : Nat) (e : Int) (h : IsReader w r a c b p e) :
    Calls Tryz.prog 91 #[.pointer (some ⟨r, 0, none⟩)] w fun e' w' => e' = .returned (.int .i64 (p : Int)) ∧ w' = w := by
  have h2 := h.c1
  clear h
  go_enter Tryz.func91, Tryz.ntmps91
  go_wp2
  go_ret
  exact ⟨rfl, rfl⟩
end Go.Proofs.YtcaibgbhebldmaaGreat
/-
  THE WALKS OF codec.Reader's METHODS: End; codec.Read.
-/
namespace Go.Proofs.YtcaibgbhebldmaaGreat
open Go.RowKit

def rdEnd (b : List Nat) (p : Nat) (e : Int) : Int := if e = 0 ∧ p < b.length then 11 else e
theorem rEnd_any (w : World) (r : Nat) (a : Option Addr) (c : Nat) (b : List Nat) (p : Nat) (e : Int) (h : IsReader w r a c b p e) :
    Calls Tryz.prog 73 #[.pointer (some ⟨r, 0, none⟩)] w fun e' w' => e' = .returned (.int .i64 (rdEnd b p e)) ∧ ∃ q, w' = w.drewN q := by
  have HR : Hid (IsReader w r a c b p e) := h
  have h2 := h.c2
  have hp := h.2.2.1
  have hl := h.2.2.2
  clear h
  by_cases he : e = 0
  · subst he
    go_enter Tryz.func73, Tryz.ntmps73
    go_wp2_with fail
    refine (left_any w r a c b p 0 HR.out).mono ?_
    rintro e1 w1 ⟨rfl, q, hq⟩
    have HR1 : Hid (IsReader w1 r a c b p 0) := by rw [hq]; exact HR.out
    have k2 := HR1.out.c2
    have HQ : Hid (w1 = w.drewN q) := hq
    clear hq h2
    by_cases hpl : p < b.length
    · have hz : (0 : Int) < ((b.length - p : Nat) : Int) := by omega
      have HE : Hid (rdEnd b p 0 = 11) := by unfold rdEnd; rw [Hid, if_pos ⟨rfl, hpl⟩]
      clear hpl
      go_wp2
      go_ret
      exact ⟨by rw [HE.out]; rfl, q, HQ.out⟩
    · have hz : ¬ (0 : Int) < ((b.length - p : Nat) : Int) := by omega
      have HE : Hid (rdEnd b p 0 = 0) := by unfold rdEnd; rw [Hid, if_neg (by omega)]
      clear hpl
      go_wp2
      go_ret
      exact ⟨by rw [HE.out]; rfl, q, HQ.out⟩
  · have he' : (e == 0) = false := by rw [beq_eq_false_iff_ne]; exact he
    have HE : Hid (rdEnd b p e = e) := by unfold rdEnd; rw [Hid, if_neg (by omega)]
    clear he
    go_enter Tryz.func73, Tryz.ntmps73
    go_wp2
    go_ret
    exact ⟨by rw [HE.out]; rfl, 0, rfl⟩

theorem read_any (w : World) (ao : Option Addr) (cap n : Nat) (zs : List Nat) (hn : n = zs.length) (h : BytesAt w ao zs) (hm : n ≤ 140737488355328) :
    Calls Tryz.prog 48 #[.slice ao n cap] w fun e w' => e = .returned (.pointer (some ⟨w.heap.size + 1, 0, none⟩)) ∧ IsReader w' (w.heap.size + 1) (some ⟨w.heap.size, 0, none⟩) n zs 0 0 ∧ Below w.heap.size w w' ∧ w'.heap.size = w.heap.size + 2 := by
  subst hn
  have HB : Hid (BytesAt w ao zs) := h
  have HZ : Hid (∀ z ∈ zs, z < 256) := h.1
  clear h
  go_enter Tryz.func48, Tryz.ntmps48
  go_wp2_with fail
  refine (fresh_any w ao cap zs.length zs rfl HB.out (by omega)).mono ?_
  rintro e w1 ⟨rfl, hr, hb, hs⟩
  have HO : Hid (OwnB w1 0 (.slice (some ⟨w.heap.size, 0, none⟩) zs.length zs.length) zs) := OwnB.ofRow hr HZ.out (by unfold maxLen; omega) (Nat.zero_le _)
  have HB1 : Hid (Below w.heap.size w w1) := hb
  have HS : Hid (w1.heap.size = w.heap.size + 1) := hs
  clear hr hb hs
  go_wp2
  go_ret
  refine ⟨by rw [HS.out]; rfl, ⟨?_, HO.out.alloc _, Nat.zero_le _, hm⟩, HB1.out.alloc (by rw [HS.out]; omega) _, by simp [HS.out]⟩
  rw [← HS.out]
  show (w1.heap.push _)[w1.heap.size]? = _
  simp

end Go.Proofs.YtcaibgbhebldmaaGreat
