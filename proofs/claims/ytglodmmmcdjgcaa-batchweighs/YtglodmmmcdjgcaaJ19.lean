import Derived.Test.YtglodmmmcdjgcaaJ09
import Derived.Test.YtglodmmmcdjgcaaJ07
/-
  THE WALKS OF Fail, Err.
-/
namespace Go.Proofs.Ytglodmmmcdjgcaa
open Go.RowKit

end Go.Proofs.Ytglodmmmcdjgcaa
/-
  THE WALK OF At.
-/
namespace Go.Proofs.Ytglodmmmcdjgcaa
open Go.RowKit

end Go.Proofs.Ytglodmmmcdjgcaa
/-
  THE WALKS OF codec.Reader's METHODS: End; codec.Read.
-/
namespace Go.Proofs.Ytglodmmmcdjgcaa
open Go.RowKit

def rdEnd (b : List Nat) (p : Nat) (e : Int) : Int := if e = 0 ∧ p < b.length then 11 else e


end Go.Proofs.Ytglodmmmcdjgcaa
