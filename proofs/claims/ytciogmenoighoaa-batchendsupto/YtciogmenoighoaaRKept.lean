/-
  WHAT A Reader's CALLS KEEP.
-/
import Derived.Test.YtciogmenoighoaaRFail
namespace Go.Proofs.Ytciogmenoighoaa
open Go.RowKit

theorem Reads.trans {w w1 w2 : World} {r : Nat} {a : Option Addr} {c : Nat} {b : List Nat} {p q : Nat} {e x : Int} (h : Reads w r a c b p e w1) (k : Reads w1 r a c b q x w2) : Reads w r a c b q x w2 := ⟨k.1, grown_trans' h.2 k.2⟩
theorem Reads.kept {w w1 w2 : World} {r : Nat} {a : Option Addr} {c : Nat} {b : List Nat} {p : Nat} {e : Int} (h : Reads w r a c b p e w1) (hb : Below w1.heap.size w1 w2) : Reads w r a c b p e w2 := ⟨h.1.kept hb, grown_trans' h.2 (grown_below hb)⟩
theorem Reads.alloc {w w1 : World} {r : Nat} {a : Option Addr} {c : Nat} {b : List Nat} {p : Nat} {e : Int} (h : Reads w r a c b p e w1) (o : Obj) : Reads w r a c b p e (w1.alloc o) := h.kept ((Below.refl _ _).alloc (Nat.le_refl _) _)

theorem IsReader.grown {w w1 : World} {r : Nat} {a : Option Addr} {c : Nat} {b : List Nat} {p : Nat} {e : Int} {row : Option Nat} (h : IsReader w r a c b p e) (hg : w.grownBy w1 row) (h1 : some r ≠ row) (h2 : (Value.slice a b.length c).ownBlock = none ∨ (Value.slice a b.length c).ownBlock ≠ row) : IsReader w1 r a c b p e :=
  ⟨by rw [hg.block r h.lt h1]; exact h.1, h.2.1.grown hg h2, h.2.2⟩
/-- a store into a block that is new since w -/
theorem Reads.setNew {w W : World} {r : Nat} {a : Option Addr} {c : Nat} {b : List Nat} {p p0 : Nat} {e e0 : Int} (h : Reads w r a c b p e W) (h0 : IsReader w r a c b p0 e0) (B i : Nat) (v : Value) (hB : w.heap.size ≤ B) : Reads w r a c b p e (W.setCell ⟨B, i, none⟩ v) := by
  have hg := grown_setCell W ⟨B, i, none⟩ v
  refine ⟨h.1.grown hg (fun e => ?_) ?_, ?_⟩
  · have := h0.lt
    simp at e; omega
  · by_cases hn : (Value.slice a b.length c).ownBlock = none
    · exact .inl hn
    · refine .inr fun e => ?_
      have := (h0.2.1.2.lt B e).2
      omega
  · refine ⟨hg.os.trans h.2.os, hg.tape.trans h.2.tape, hg.output.trans h.2.output, Nat.le_trans h.2.size hg.size, fun k hk hr => ?_⟩
    rw [hg.block k (Nat.lt_of_lt_of_le hk h.2.size) (fun e => by simp at e; omega), h.2.block k hk hr]
end Go.Proofs.Ytciogmenoighoaa
