import Derived.Test.YtglodmmmcdjgcaaJ12
import Derived.Test.YtglodmmmcdjgcaaJ13
import Derived.Test.YtglodmmmcdjgcaaJ04
import Derived.Test.YtglodmmmcdjgcaaJ07
/-
  THE WALKS OF THE DOCUMENT's Formed, Sound, Check.
-/
namespace Go.Proofs.Ytglodmmmcdjgcaa.Kk
open Go.RowKit Go.Sort

end Go.Proofs.Ytglodmmmcdjgcaa.Kk
/-
  THE WALKS OF each, Check.
-/
namespace Go.Proofs.Ytglodmmmcdjgcaa.Kk
open Go.RowKit Go.Sort

end Go.Proofs.Ytglodmmmcdjgcaa.Kk
/-
  THE WALKS OF putArgs, putKeys, Encode.
-/
namespace Go.Proofs.Ytglodmmmcdjgcaa.Kk
open Go.RowKit Go.Sort

/-- block k is not the Writer's -/
def Free (W : World) (r k : Nat) : Prop := k < W.heap.size ∧ k ≠ r ∧ ∀ v, W.cell? ⟨r, 0, none⟩ = some v → v.ownBlock ≠ some k
/-- what stays while a Writer is written -/
structure Fl (base r : Nat) (w w' : World) : Prop where
  bel : Below base w w'
  fre : ∀ k, Free w r k → w'.heap[k]? = w.heap[k]? ∧ Free w' r k
theorem Fl.trans {base r : Nat} {w w1 w2 : World} (h : Fl base r w w1) (k : Fl base r w1 w2) : Fl base r w w2 :=
  ⟨h.bel.trans k.bel, fun j hj => ⟨(k.fre j (h.fre j hj).2).1.trans (h.fre j hj).1, (k.fre j (h.fre j hj).2).2⟩⟩
theorem Fl.refl (base r : Nat) (w : World) : Fl base r w w := ⟨Below.refl _ _, fun _ h => ⟨rfl, h⟩⟩
/-- what an argument's cells lie below -/
def Low (base : Nat) (ao : Option Addr) (E : Prop) : Prop := ∀ a, E → ao = some a → a.block < base
def argsT (A : List Int) : List Nat := A.flatMap fun x => uint 10 (fold x)
theorem argsT_length (A : List Int) : (argsT A).length ≤ A.length * 11 := by
  induction A with
  | nil => simp [argsT]
  | cons x A ih =>
    have := uint_length 10 (fold x)
    simp only [argsT, List.flatMap_cons, List.length_append, List.length_cons] at ih ⊢
    omega
theorem keysT_length (L : List K) : (L.flatMap keyBytes).length = L.length * 10 := by
  induction L with
  | nil => simp
  | cons x A ih => simp only [List.flatMap_cons, List.length_append, List.length_cons, ih, keyBytes_length]; omega

end Go.Proofs.Ytglodmmmcdjgcaa.Kk
