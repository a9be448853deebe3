/-
  THE WALKS OF codec.Reader's METHODS: Bytes, End; codec.Read.
-/
import Derived.Test.YtciogmenoighoaaRaw
namespace Go.Proofs.Ytciogmenoighoaa
open Go.RowKit

def rdBytes (b : List Nat) (p : Nat) (e : Int) (most : Int) : List Nat × Nat × Int :=
  if e ≠ 0 then ([], p, e) else if (scan (b.drop p)).2.2 ≠ 0 then ([], p, (((scan (b.drop p)).2.2 : Nat) : Int)) else if most < 0 ∨ most < (((scan (b.drop p)).1 : Nat) : Int) then ([], p, 12)
  else if b.length - p - (scan (b.drop p)).2.1 < (scan (b.drop p)).1 then ([], p, 10) else rdRaw b (p + (scan (b.drop p)).2.1) 0 (((scan (b.drop p)).1 : Nat) : Int)


end Go.Proofs.Ytciogmenoighoaa
