/-
  THE WALKS OF codec.Reader's METHODS: End; codec.Read.
-/
import Derived.Test.YtjmlogljfboleaaReader
import Derived.Test.YtjmlogljfboleaaFresh
namespace Go.Proofs.Ytjmlogljfboleaa
open Go.RowKit

def rdEnd (b : List Nat) (p : Nat) (e : Int) : Int := if e = 0 ∧ p < b.length then 11 else e

theorem read_any (w : World) (ao : Option Addr) (cap n : Nat) (zs : List Nat) (hn : n = zs.length) (h : BytesAt w ao zs) (hm : n ≤ 140737488355328) :
    Calls Try.prog 21 #[.slice ao n cap] w fun e w' => e = .returned (.pointer (some ⟨w.heap.size + 1, 0, none⟩)) ∧ IsReader w' (w.heap.size + 1) (some ⟨w.heap.size, 0, none⟩) n zs 0 0 ∧ Below w.heap.size w w' ∧ w'.heap.size = w.heap.size + 2 := by
  subst hn
  have HB : Hid (BytesAt w ao zs) := h
  have HZ : Hid (∀ z ∈ zs, z < 256) := h.1
  clear h
  go_enter Try.func21, Try.ntmps21
  go_wp2_with fail
  refine (fresh_any w ao cap zs.length zs rfl HB.out (by omega)).mono ?_
  rintro e w1 ⟨rfl, hr, hb, hs⟩
  have HO : Hid (OwnB w1 0 (.slice (some ⟨w.heap.size, 0, none⟩) zs.length zs.length) zs) := OwnB.ofRow hr HZ.out (by unfold maxLen; omega) (Nat.zero_le _)
  have HB1 : Hid (Below w.heap.size w w1) := hb
  have HS : Hid (w1.heap.size = w.heap.size + 1) := hs
  clear hr hb hs
  go_wp2
  go_ret
  refine ⟨by rw [HS.out]; rfl, ⟨?_, HO.out.alloc _, Nat.zero_le _, hm⟩, HB1.out.alloc (by rw [HS.out]; omega) _, by simp [HS.out]⟩
  rw [← HS.out]
  show (w1.heap.push _)[w1.heap.size]? = _
  simp

end Go.Proofs.Ytjmlogljfboleaa
