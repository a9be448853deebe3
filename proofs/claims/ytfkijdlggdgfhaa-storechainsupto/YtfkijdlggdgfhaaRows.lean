/-
  No cell of these rows narrows 'for every input' (looked for: loops, veiled, ifaces, maps, wideKeys, modest, calm, conditions, laid).
  DERIVED. THE GIVEN ROWS OF THIS SEAT. 4 by the template 'for every input the law returns true; each argument reads behind the call as it read before'; 0 by the template 'total and deterministic' (their statements: YtfkijdlggdgfhaaTotals.lean).
  GIVEN WITH THE SEED: the statements are not yours to turn. If you find one false, say at which input.
  Laid BY PROGRAM, IN A SANDBOX (cutbox-rows.mjs): the forced cells as the released guide's own fill.sh prints them over the translation ac9621c331cb9d28… (all of the seat's roots in one cut). By AI agents, Wed Nov 11 2026. No macro, syntax, notation, axiom, sorry.
-/
import Derived.Test.YtfkijdlggdgfhaaChecked
import GoSem.Claim
import GoSem.ClaimJoined
import GoSem.ClaimMapViews
import Derived.JoinedTies
import Derived.KernelRfl
namespace Go.Proofs.Ytfkijdlggdgfhaa
/- THE CELL 'sum', in the pinned program and in every row, IS THE sha256 OF THE DUMP (.gsa) THAT YtfkijdlggdgfhaaProg.lean LOADS. Nothing in Lean hashes anything: it is a label: what it is worth is what the hold of that sum in a sandbox is worth. -/
noncomputable def Try.pinned : Pinned := { name := "ytfkijdlggdgfhaa", sum := "ac9621c331cb9d28d3abdb8c9de1a43100200569311db86e2d85bc9c1fbad13b", checked := Try.checked }
namespace Rows
def none {H : Type} : Left H := { results := [], args := [] }

/-- 'preludelaw09.StoreChains': WHATEVER THE INPUT: true; the input reads as it did. -/
def storeChainsSpec : ChangeSpec := { name := "storeChains", fn := fun _ => fun
  | [d1, d2] => { results := [.lit (.bool true)], args := [d1, d2] }
  | _ => none }
def storeChainsRow : OpenClaim := { program := "ytfkijdlggdgfhaa", sum := "ac9621c331cb9d28d3abdb8c9de1a43100200569311db86e2d85bc9c1fbad13b", func := "prelude/preludelaw09.StoreChains", spec := "storeChains", unfollowed := true, recurses := true, plainKeys := false, apart := false }
def StoreChainsSaid : Prop := storeChainsRow.holds Try.pinned (OpenSpec.ofChange storeChainsSpec)

/-- ITS FALSE NEIGHBOUR: 'it returns false'. Refute it at one input. -/
def storeChainsWrong : ChangeSpec := { name := "storeChains", fn := fun _ => fun
  | [d1, d2] => { results := [.lit (.bool false)], args := [d1, d2] }
  | _ => none }
def StoreChainsWrongFalsely : Prop := storeChainsRow.holds Try.pinned (OpenSpec.ofChange storeChainsWrong)

/-- 'preludelaw09.StoreVisible': WHATEVER THE INPUT: true; the input reads as it did. -/
def storeVisibleSpec : ChangeSpec := { name := "storeVisible", fn := fun _ => fun
  | [d] => { results := [.lit (.bool true)], args := [d] }
  | _ => none }
def storeVisibleRow : OpenClaim := { program := "ytfkijdlggdgfhaa", sum := "ac9621c331cb9d28d3abdb8c9de1a43100200569311db86e2d85bc9c1fbad13b", func := "prelude/preludelaw09.StoreVisible", spec := "storeVisible", unfollowed := true, recurses := true, plainKeys := false, apart := false }
def StoreVisibleSaid : Prop := storeVisibleRow.holds Try.pinned (OpenSpec.ofChange storeVisibleSpec)

/-- ITS FALSE NEIGHBOUR: 'it returns false'. Refute it at one input. -/
def storeVisibleWrong : ChangeSpec := { name := "storeVisible", fn := fun _ => fun
  | [d] => { results := [.lit (.bool false)], args := [d] }
  | _ => none }
def StoreVisibleWrongFalsely : Prop := storeVisibleRow.holds Try.pinned (OpenSpec.ofChange storeVisibleWrong)

/-- 'preludelaw09.StoreRoom': WHATEVER THE INPUT: true; the input reads as it did. -/
def storeRoomSpec : ChangeSpec := { name := "storeRoom", fn := fun _ => fun
  | [d1, d2] => { results := [.lit (.bool true)], args := [d1, d2] }
  | _ => none }
def storeRoomRow : OpenClaim := { program := "ytfkijdlggdgfhaa", sum := "ac9621c331cb9d28d3abdb8c9de1a43100200569311db86e2d85bc9c1fbad13b", func := "prelude/preludelaw09.StoreRoom", spec := "storeRoom", unfollowed := true, recurses := true, plainKeys := false, apart := false }
def StoreRoomSaid : Prop := storeRoomRow.holds Try.pinned (OpenSpec.ofChange storeRoomSpec)

/-- ITS FALSE NEIGHBOUR: 'it returns false'. Refute it at one input. -/
def storeRoomWrong : ChangeSpec := { name := "storeRoom", fn := fun _ => fun
  | [d1, d2] => { results := [.lit (.bool false)], args := [d1, d2] }
  | _ => none }
def StoreRoomWrongFalsely : Prop := storeRoomRow.holds Try.pinned (OpenSpec.ofChange storeRoomWrong)

/-- 'preludelaw09.StoreFills': WHATEVER THE INPUT: true; the input reads as it did. -/
def storeFillsSpec : ChangeSpec := { name := "storeFills", fn := fun _ => fun
  | [d1, d2, d3] => { results := [.lit (.bool true)], args := [d1, d2, d3] }
  | _ => none }
def storeFillsRow : OpenClaim := { program := "ytfkijdlggdgfhaa", sum := "ac9621c331cb9d28d3abdb8c9de1a43100200569311db86e2d85bc9c1fbad13b", func := "prelude/preludelaw09.StoreFills", spec := "storeFills", unfollowed := true, recurses := true, plainKeys := false, apart := false }
def StoreFillsSaid : Prop := storeFillsRow.holds Try.pinned (OpenSpec.ofChange storeFillsSpec)

/-- ITS FALSE NEIGHBOUR: 'it returns false'. Refute it at one input. -/
def storeFillsWrong : ChangeSpec := { name := "storeFills", fn := fun _ => fun
  | [d1, d2, d3] => { results := [.lit (.bool false)], args := [d1, d2, d3] }
  | _ => none }
def StoreFillsWrongFalsely : Prop := storeFillsRow.holds Try.pinned (OpenSpec.ofChange storeFillsWrong)

/- THE SECOND FORM. 'bulk': how many values and letters a reading holds, each counted each time it is reached (what is shared counts as often as it is met; a slice's spare places count too). A statement '..UptoSaid' is the law's where the arguments, and the package variables that the reading takes, are together of bulk at most 1048576: NARROWER than '..Said'. Prove '..Said' where nothing that the law and all that it calls make is longer than what came in: it says more and counts as full. Else prove '..UptoSaid'. A law counts once. -/
mutual
def uptoBulk {H : Type} : DataW H → Nat
  | .lit (.string bytes) => bytes.length + 1
  | .lit _ => 1
  | .nil => 1
  | .ptr d => uptoBulk d + 1
  | .slice elems spare => uptoBulkAll elems + uptoBulkAll spare + 1
  | .agg parts => uptoBulkAll parts + 1
  | .iface _ d => uptoBulk d + 1
  | .map entries => uptoBulkEntries entries + 1
  | .held _ => 1
def uptoBulkAll {H : Type} : List (DataW H) → Nat
  | [] => 0
  | d :: r => uptoBulk d + uptoBulkAll r
def uptoBulkEntries {H : Type} : List (Lit × DataW H) → Nat
  | [] => 0
  | x :: r => uptoBulkEntry x + uptoBulkEntries r
def uptoBulkEntry {H : Type} : Lit × DataW H → Nat
  | (.string bytes, d) => bytes.length + uptoBulk d + 1
  | (_, d) => uptoBulk d + 1
 end
def uptoSmall : (H : Type) → List (DataW H) → Bool := fun _ ds => decide (uptoBulkAll ds ≤ 1048576)
def OpenSpec.upto (s : _root_.Go.ChangeSpec) : _root_.Go.OpenSpec := { _root_.Go.OpenSpec.ofChange s with cond := some uptoSmall }

/-- 'preludelaw09.StoreChains', WHERE WHAT IT READS IS OF BULK AT MOST 1048576: true; the input reads as it did. -/
def storeChainsUptoRow : OpenClaim := { program := "ytfkijdlggdgfhaa", sum := "ac9621c331cb9d28d3abdb8c9de1a43100200569311db86e2d85bc9c1fbad13b", func := "prelude/preludelaw09.StoreChains", spec := "storeChains", unfollowed := true, recurses := true, plainKeys := false, apart := false, narrowed := true }
def StoreChainsUptoSaid : Prop := storeChainsUptoRow.holds Try.pinned (OpenSpec.upto storeChainsSpec)

/-- 'preludelaw09.StoreVisible', WHERE WHAT IT READS IS OF BULK AT MOST 1048576: true; the input reads as it did. -/
def storeVisibleUptoRow : OpenClaim := { program := "ytfkijdlggdgfhaa", sum := "ac9621c331cb9d28d3abdb8c9de1a43100200569311db86e2d85bc9c1fbad13b", func := "prelude/preludelaw09.StoreVisible", spec := "storeVisible", unfollowed := true, recurses := true, plainKeys := false, apart := false, narrowed := true }
def StoreVisibleUptoSaid : Prop := storeVisibleUptoRow.holds Try.pinned (OpenSpec.upto storeVisibleSpec)

/-- 'preludelaw09.StoreRoom', WHERE WHAT IT READS IS OF BULK AT MOST 1048576: true; the input reads as it did. -/
def storeRoomUptoRow : OpenClaim := { program := "ytfkijdlggdgfhaa", sum := "ac9621c331cb9d28d3abdb8c9de1a43100200569311db86e2d85bc9c1fbad13b", func := "prelude/preludelaw09.StoreRoom", spec := "storeRoom", unfollowed := true, recurses := true, plainKeys := false, apart := false, narrowed := true }
def StoreRoomUptoSaid : Prop := storeRoomUptoRow.holds Try.pinned (OpenSpec.upto storeRoomSpec)

/-- 'preludelaw09.StoreFills', WHERE WHAT IT READS IS OF BULK AT MOST 1048576: true; the input reads as it did. -/
def storeFillsUptoRow : OpenClaim := { program := "ytfkijdlggdgfhaa", sum := "ac9621c331cb9d28d3abdb8c9de1a43100200569311db86e2d85bc9c1fbad13b", func := "prelude/preludelaw09.StoreFills", spec := "storeFills", unfollowed := true, recurses := true, plainKeys := false, apart := false, narrowed := true }
def StoreFillsUptoSaid : Prop := storeFillsUptoRow.holds Try.pinned (OpenSpec.upto storeFillsSpec)

end Rows
end Go.Proofs.Ytfkijdlggdgfhaa
