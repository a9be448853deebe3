/-
  THE WALKS OF Check, num.
-/
import Derived.Test.YtenmkigoohpfmaaKBase
namespace Go.Proofs.Ytenmkigoohpfmaa
open Go.RowKit Go.Sort

def errOf (b : Bool) (e : Int) : Int := if b then 0 else e



end Go.Proofs.Ytenmkigoohpfmaa
