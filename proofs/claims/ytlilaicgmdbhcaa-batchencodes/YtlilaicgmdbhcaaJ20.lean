import Derived.Test.YtlilaicgmdbhcaaJ09
import Derived.Test.YtlilaicgmdbhcaaJ07
import Derived.Test.YtlilaicgmdbhcaaJ19
/-
  THE WALK OF At.
-/
namespace Go.Proofs.Ytlilaicgmdbhcaa
open Go.RowKit

theorem rAt_any (w : World) (r : Nat) (a : Option Addr) (c : Nat) (b : List Nat) (p : Nat) (e : Int) (h : IsReader w r a c b p e) :
    Calls Try.prog 78 #[.pointer (some ⟨r, 0, none⟩)] w fun e' w' => e' = .returned (.int .i64 (p : Int)) ∧ w' = w := by
  have h2 := h.c1
  clear h
  go_enter Try.func78, Try.ntmps78
  go_wp2
  go_ret
  exact ⟨rfl, rfl⟩
end Go.Proofs.Ytlilaicgmdbhcaa
/-
  THE WALKS OF codec.Reader's METHODS: End; codec.Read.
-/
namespace Go.Proofs.Ytlilaicgmdbhcaa
open Go.RowKit

def rdEnd (b : List Nat) (p : Nat) (e : Int) : Int := if e = 0 ∧ p < b.length then 11 else e
theorem rEnd_any (w : World) (r : Nat) (a : Option Addr) (c : Nat) (b : List Nat) (p : Nat) (e : Int) (h : IsReader w r a c b p e) :
    Calls Try.prog 63 #[.pointer (some ⟨r, 0, none⟩)] w fun e' w' => e' = .returned (.int .i64 (rdEnd b p e)) ∧ ∃ q, w' = w.drewN q := by
  have HR : Hid (IsReader w r a c b p e) := h
  have h2 := h.c2
  have hp := h.2.2.1
  have hl := h.2.2.2
  clear h
  by_cases he : e = 0
  · subst he
    go_enter Try.func63, Try.ntmps63
    go_wp2_with fail
    refine (left_any w r a c b p 0 HR.out).mono ?_
    rintro e1 w1 ⟨rfl, q, hq⟩
    have HR1 : Hid (IsReader w1 r a c b p 0) := by rw [hq]; exact HR.out
    have k2 := HR1.out.c2
    have HQ : Hid (w1 = w.drewN q) := hq
    clear hq h2
    by_cases hpl : p < b.length
    · have hz : (0 : Int) < ((b.length - p : Nat) : Int) := by omega
      have HE : Hid (rdEnd b p 0 = 11) := by unfold rdEnd; rw [Hid, if_pos ⟨rfl, hpl⟩]
      clear hpl
      go_wp2
      go_ret
      exact ⟨by rw [HE.out]; rfl, q, HQ.out⟩
    · have hz : ¬ (0 : Int) < ((b.length - p : Nat) : Int) := by omega
      have HE : Hid (rdEnd b p 0 = 0) := by unfold rdEnd; rw [Hid, if_neg (by omega)]
      clear hpl
      go_wp2
      go_ret
      exact ⟨by rw [HE.out]; rfl, q, HQ.out⟩
  · have he' : (e == 0) = false := by rw [beq_eq_false_iff_ne]; exact he
    have HE : Hid (rdEnd b p e = e) := by unfold rdEnd; rw [Hid, if_neg (by omega)]
    clear he
    go_enter Try.func63, Try.ntmps63
    go_wp2
    go_ret
    exact ⟨by rw [HE.out]; rfl, 0, rfl⟩

theorem read_any (w : World) (ao : Option Addr) (cap n : Nat) (zs : List Nat) (hn : n = zs.length) (h : BytesAt w ao zs) (hm : n ≤ 140737488355328) :
    Calls Try.prog 42 #[.slice ao n cap] w fun e w' => e = .returned (.pointer (some ⟨w.heap.size + 1, 0, none⟩)) ∧ IsReader w' (w.heap.size + 1) (some ⟨w.heap.size, 0, none⟩) n zs 0 0 ∧ Below w.heap.size w w' ∧ w'.heap.size = w.heap.size + 2 := by
  subst hn
  have HB : Hid (BytesAt w ao zs) := h
  have HZ : Hid (∀ z ∈ zs, z < 256) := h.1
  clear h
  go_enter Try.func42, Try.ntmps42
  go_wp2_with fail
  refine (fresh_any w ao cap zs.length zs rfl HB.out (by omega)).mono ?_
  rintro e w1 ⟨rfl, hr, hb, hs⟩
  have HO : Hid (OwnB w1 0 (.slice (some ⟨w.heap.size, 0, none⟩) zs.length zs.length) zs) := OwnB.ofRow hr HZ.out (by unfold maxLen; omega) (Nat.zero_le _)
  have HB1 : Hid (Below w.heap.size w w1) := hb
  have HS : Hid (w1.heap.size = w.heap.size + 1) := hs
  clear hr hb hs
  go_wp2
  go_ret
  refine ⟨by rw [HS.out]; rfl, ⟨?_, HO.out.alloc _, Nat.zero_le _, hm⟩, HB1.out.alloc (by rw [HS.out]; omega) _, by simp [HS.out]⟩
  rw [← HS.out]
  show (w1.heap.push _)[w1.heap.size]? = _
  simp

end Go.Proofs.Ytlilaicgmdbhcaa
/-
  WHAT A Reader's CALLS KEEP.
-/
namespace Go.Proofs.Ytlilaicgmdbhcaa
open Go.RowKit

theorem Reads.trans {w w1 w2 : World} {r : Nat} {a : Option Addr} {c : Nat} {b : List Nat} {p q : Nat} {e x : Int} (h : Reads w r a c b p e w1) (k : Reads w1 r a c b q x w2) : Reads w r a c b q x w2 := ⟨k.1, grown_trans' h.2 k.2⟩
theorem Reads.kept {w w1 w2 : World} {r : Nat} {a : Option Addr} {c : Nat} {b : List Nat} {p : Nat} {e : Int} (h : Reads w r a c b p e w1) (hb : Below w1.heap.size w1 w2) : Reads w r a c b p e w2 := ⟨h.1.kept hb, grown_trans' h.2 (grown_below hb)⟩
theorem Reads.alloc {w w1 : World} {r : Nat} {a : Option Addr} {c : Nat} {b : List Nat} {p : Nat} {e : Int} (h : Reads w r a c b p e w1) (o : Obj) : Reads w r a c b p e (w1.alloc o) := h.kept ((Below.refl _ _).alloc (Nat.le_refl _) _)

theorem IsReader.grown {w w1 : World} {r : Nat} {a : Option Addr} {c : Nat} {b : List Nat} {p : Nat} {e : Int} {row : Option Nat} (h : IsReader w r a c b p e) (hg : w.grownBy w1 row) (h1 : some r ≠ row) (h2 : (Value.slice a b.length c).ownBlock = none ∨ (Value.slice a b.length c).ownBlock ≠ row) : IsReader w1 r a c b p e :=
  ⟨by rw [hg.block r h.lt h1]; exact h.1, h.2.1.grown hg h2, h.2.2⟩
/-- a store into a block that is new since w -/
theorem Reads.setNew {w W : World} {r : Nat} {a : Option Addr} {c : Nat} {b : List Nat} {p p0 : Nat} {e e0 : Int} (h : Reads w r a c b p e W) (h0 : IsReader w r a c b p0 e0) (B i : Nat) (v : Value) (hB : w.heap.size ≤ B) : Reads w r a c b p e (W.setCell ⟨B, i, none⟩ v) := by
  have hg := grown_setCell W ⟨B, i, none⟩ v
  refine ⟨h.1.grown hg (fun e => ?_) ?_, ?_⟩
  · have := h0.lt
    simp at e; omega
  · by_cases hn : (Value.slice a b.length c).ownBlock = none
    · exact .inl hn
    · refine .inr fun e => ?_
      have := (h0.2.1.2.lt B e).2
      omega
  · refine ⟨hg.os.trans h.2.os, hg.tape.trans h.2.tape, hg.output.trans h.2.output, Nat.le_trans h.2.size hg.size, fun k hk hr => ?_⟩
    rw [hg.block k (Nat.lt_of_lt_of_le hk h.2.size) (fun e => by simp at e; omega), h.2.block k hk hr]
end Go.Proofs.Ytlilaicgmdbhcaa
