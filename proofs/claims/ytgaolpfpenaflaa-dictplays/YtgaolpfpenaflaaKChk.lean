/-
  THE WALKS OF Check, num.
-/
import Derived.Test.YtgaolpfpenaflaaKBase
namespace Go.Proofs.Ytgaolpfpenaflaa
open Go.RowKit Go.Sort

def errOf (b : Bool) (e : Int) : Int := if b then 0 else e



end Go.Proofs.Ytgaolpfpenaflaa
