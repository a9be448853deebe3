/-
  THINGS THAT LIE APART: each block bears a label; a thing holds in every world that keeps the blocks of its label.
-/
import Derived.Test.YthdlilekilkogaaEnds
namespace Go.Proofs.Ythdlilekilkogaa
open Go.RowKit

structure Held (lab : Nat → Nat) (i : Nat) (w : World) (S : Nat → Prop) (P : World → Prop) : Prop where
  holds : P w
  labs : ∀ k, S k → lab k = i
  lts : ∀ k, S k → k < w.heap.size
  dep : ∀ w1 w2 : World, P w1 → (∀ k, S k → w2.heap[k]? = w1.heap[k]?) → P w2
theorem Held.keep {lab lab' : Nat → Nat} {i : Nat} {w w1 : World} {S : Nat → Prop} {P : World → Prop} (h : Held lab i w S P) (hk : ∀ k, k < w.heap.size → lab k = i → w1.heap[k]? = w.heap[k]?) (hs : w.heap.size ≤ w1.heap.size)
    (hl : ∀ k, k < w.heap.size → lab k = i → lab' k = i) : Held lab' i w1 S P :=
  ⟨h.dep w w1 h.holds (fun k hS => hk k (h.lts k hS) (h.labs k hS)), fun k hS => hl k (h.lts k hS) (h.labs k hS), fun k hS => Nat.lt_of_lt_of_le (h.lts k hS) hs, h.dep⟩

/-- new blocks get a label -/
def relab (lab : Nat → Nat) (n i : Nat) : Nat → Nat := fun k => if k < n then lab k else i
theorem relab_old (lab : Nat → Nat) (n i k : Nat) (h : k < n) : relab lab n i k = lab k := if_pos h
theorem relab_new (lab : Nat → Nat) (n i k : Nat) (h : n ≤ k) : relab lab n i k = i := if_neg (by omega)
theorem relab_mine {lab : Nat → Nat} {n i k : Nat} (h : (k < n ∧ lab k = i) ∨ n ≤ k) : relab lab n i k = i := by
  rcases h with h | h
  · rw [relab_old _ _ _ _ h.1]; exact h.2
  · exact relab_new _ _ _ _ h

def BytesSet (v : Value) (k : Nat) : Prop := v.ownBlock = some k
theorem Held.bytes {lab : Nat → Nat} {i : Nat} {w : World} {base : Nat} {v : Value} {L : List Nat} (h : OwnB w base v L) (hl : ∀ k, v.ownBlock = some k → lab k = i) : Held lab i w (BytesSet v) (fun w' => OwnB w' base v L) :=
  ⟨h, hl, fun k hk => (h.2.lt k hk).2, fun _ _ h1 hs => h1.same hs⟩
theorem Held.block {lab : Nat → Nat} {i : Nat} {w : World} {A : Nat} {o : Obj} (h : w.heap[A]? = some o) (hl : lab A = i) : Held lab i w (fun k => k = A) (fun w' => w'.heap[A]? = some o) :=
  ⟨h, fun k hk => by rw [hk]; exact hl, fun k hk => by rw [hk]; exact heap_lt h, fun _ _ h1 hs => (hs A rfl).trans h1⟩
theorem Held.book {lab : Nat → Nat} {i : Nat} {w : World} {kb : Nat} {vl vw : Value} {ls ws : List Value} {Ls Ws : List (List Nat)} (h : IsBook w kb vl vw ls ws Ls Ws) (hl : ∀ k, BookSet kb vl vw ls ws k → lab k = i) :
    Held lab i w (BookSet kb vl vw ls ws) (fun w' => IsBook w' kb vl vw ls ws Ls Ws) :=
  ⟨h, hl, h.lt, fun _ _ h1 hs => h1.same hs⟩

/-- what a step that touches the blocks of some labels leaves -/
structure Tch (lab : Nat → Nat) (T : Nat → Prop) (w w1 : World) : Prop where
  os : w1.os = w.os
  tape : w1.tape = w.tape
  output : w1.output = w.output
  size : w.heap.size ≤ w1.heap.size
  block : ∀ k, k < w.heap.size → ¬ T (lab k) → w1.heap[k]? = w.heap[k]?
theorem Tch.below {lab : Nat → Nat} {T : Nat → Prop} {w w1 : World} {B j : Nat} (h : Tch lab T w w1) (ho : ∀ k, k < B → lab k = j) (hj : ¬ T j) (hB : B ≤ w.heap.size) : Below B w w1 :=
  ⟨h.os, h.tape, h.output, h.size, fun k hk => h.block k (by omega) (by rw [ho k hk]; exact hj)⟩
theorem Held.far {lab lab' : Nat → Nat} {i : Nat} {w w1 : World} {S : Nat → Prop} {P : World → Prop} {T : Nat → Prop} (h : Held lab i w S P) (ht : Tch lab T w w1) (hi : ¬ T i) (hl : ∀ k, k < w.heap.size → lab k = i → lab' k = i) : Held lab' i w1 S P :=
  h.keep (fun k hk hli => ht.block k hk (by rw [hli]; exact hi)) ht.size hl
theorem Tch.ofBelow {lab : Nat → Nat} {w w1 : World} (h : Below w.heap.size w w1) : Tch lab (fun _ => False) w w1 := ⟨h.os, h.tape, h.output, h.size, fun k hk _ => h.block k hk⟩
theorem Tch.ofGrown {lab : Nat → Nat} {w w1 : World} {i : Nat} {row : Option Nat} (h : w.grownBy w1 row) (hr : ∀ k, row = some k → lab k = i) : Tch lab (fun j => j = i) w w1 :=
  ⟨h.os, h.tape, h.output, h.size, fun k hk hn => h.block k hk (fun e => hn (hr k e.symm))⟩

end Go.Proofs.Ythdlilekilkogaa
