/-
  No cell of these rows narrows 'for every input' (looked for: loops, veiled, ifaces, maps, wideKeys, modest, calm, conditions, laid).
  DERIVED. THE GIVEN ROWS OF THIS SEAT. 3 by the template 'for every input the law returns true; each argument reads behind the call as it read before'; 0 by the template 'total and deterministic' (their statements: YtnjgaibcpcpmcabTotals.lean).
  GIVEN WITH THE SEED: the statements are not yours to turn. If you find one false, say at which input.
  Laid BY PROGRAM, IN A SANDBOX (cutbox-rows.mjs): the forced cells as the released guide's own fill.sh prints them over the translation f1b7e0bb8400fe92… (all of the seat's roots in one cut). By AI agents, Wed Nov 11 2026. No macro, syntax, notation, axiom, sorry.
-/
import Derived.Test.YtnjgaibcpcpmcabChecked
import GoSem.Claim
import GoSem.ClaimJoined
import GoSem.ClaimMapViews
import Derived.JoinedTies
import Derived.KernelRfl
namespace Go.Proofs.Ytnjgaibcpcpmcab
/- THE CELL 'sum', in the pinned program and in every row, IS THE sha256 OF THE DUMP (.gsa) THAT YtnjgaibcpcpmcabProg.lean LOADS. Nothing in Lean hashes anything: it is a label: what it is worth is what the hold of that sum in a sandbox is worth. -/
noncomputable def Try.pinned : Pinned := { name := "ytnjgaibcpcpmcab", sum := "f1b7e0bb8400fe923434f4006e1d8592d535b6b76012ba1c82d8205d5e6d98bc", checked := Try.checked }
namespace Rows
def none {H : Type} : Left H := { results := [], args := [] }

/-- 'preludelaw02.KeysSplits': WHATEVER THE INPUT: true; the input reads as it did. -/
def keysSplitsSpec : ChangeSpec := { name := "keysSplits", fn := fun _ => fun
  | [d] => { results := [.lit (.bool true)], args := [d] }
  | _ => none }
def keysSplitsRow : OpenClaim := { program := "ytnjgaibcpcpmcab", sum := "f1b7e0bb8400fe923434f4006e1d8592d535b6b76012ba1c82d8205d5e6d98bc", func := "prelude/preludelaw02.KeysSplits", spec := "keysSplits", unfollowed := true, recurses := true, apart := false }
def KeysSplitsSaid : Prop := keysSplitsRow.holds Try.pinned (OpenSpec.ofChange keysSplitsSpec)

/-- ITS FALSE NEIGHBOUR: 'it returns false'. Refute it at one input. -/
def keysSplitsWrong : ChangeSpec := { name := "keysSplits", fn := fun _ => fun
  | [d] => { results := [.lit (.bool false)], args := [d] }
  | _ => none }
def KeysSplitsWrongFalsely : Prop := keysSplitsRow.holds Try.pinned (OpenSpec.ofChange keysSplitsWrong)

/-- 'preludelaw02.KeysExact': WHATEVER THE INPUT: true; the input reads as it did. -/
def keysExactSpec : ChangeSpec := { name := "keysExact", fn := fun _ => fun
  | [d] => { results := [.lit (.bool true)], args := [d] }
  | _ => none }
def keysExactRow : OpenClaim := { program := "ytnjgaibcpcpmcab", sum := "f1b7e0bb8400fe923434f4006e1d8592d535b6b76012ba1c82d8205d5e6d98bc", func := "prelude/preludelaw02.KeysExact", spec := "keysExact", unfollowed := true, recurses := true, apart := false }
def KeysExactSaid : Prop := keysExactRow.holds Try.pinned (OpenSpec.ofChange keysExactSpec)

/-- ITS FALSE NEIGHBOUR: 'it returns false'. Refute it at one input. -/
def keysExactWrong : ChangeSpec := { name := "keysExact", fn := fun _ => fun
  | [d] => { results := [.lit (.bool false)], args := [d] }
  | _ => none }
def KeysExactWrongFalsely : Prop := keysExactRow.holds Try.pinned (OpenSpec.ofChange keysExactWrong)

/-- 'preludelaw02.KeysWalks': WHATEVER THE INPUT: true; the input reads as it did. -/
def keysWalksSpec : ChangeSpec := { name := "keysWalks", fn := fun _ => fun
  | [d1, d2] => { results := [.lit (.bool true)], args := [d1, d2] }
  | _ => none }
def keysWalksRow : OpenClaim := { program := "ytnjgaibcpcpmcab", sum := "f1b7e0bb8400fe923434f4006e1d8592d535b6b76012ba1c82d8205d5e6d98bc", func := "prelude/preludelaw02.KeysWalks", spec := "keysWalks", unfollowed := true, recurses := true, apart := false }
def KeysWalksSaid : Prop := keysWalksRow.holds Try.pinned (OpenSpec.ofChange keysWalksSpec)

/-- ITS FALSE NEIGHBOUR: 'it returns false'. Refute it at one input. -/
def keysWalksWrong : ChangeSpec := { name := "keysWalks", fn := fun _ => fun
  | [d1, d2] => { results := [.lit (.bool false)], args := [d1, d2] }
  | _ => none }
def KeysWalksWrongFalsely : Prop := keysWalksRow.holds Try.pinned (OpenSpec.ofChange keysWalksWrong)

/- THE SECOND FORM. 'bulk': how many values and letters a reading holds, each counted each time it is reached (what is shared counts as often as it is met; a slice's spare places count too). A statement '..UptoSaid' is the law's where the arguments, and the package variables that the reading takes, are together of bulk at most 1048576: NARROWER than '..Said'. Prove '..Said' where nothing that the law and all that it calls make is longer than what came in: it says more and counts as full. Else prove '..UptoSaid'. A law counts once. -/
mutual
def uptoBulk {H : Type} : DataW H → Nat
  | .lit (.string bytes) => bytes.length + 1
  | .lit _ => 1
  | .nil => 1
  | .ptr d => uptoBulk d + 1
  | .slice elems spare => uptoBulkAll elems + uptoBulkAll spare + 1
  | .agg parts => uptoBulkAll parts + 1
  | .iface _ d => uptoBulk d + 1
  | .map entries => uptoBulkEntries entries + 1
  | .held _ => 1
def uptoBulkAll {H : Type} : List (DataW H) → Nat
  | [] => 0
  | d :: r => uptoBulk d + uptoBulkAll r
def uptoBulkEntries {H : Type} : List (Lit × DataW H) → Nat
  | [] => 0
  | x :: r => uptoBulkEntry x + uptoBulkEntries r
def uptoBulkEntry {H : Type} : Lit × DataW H → Nat
  | (.string bytes, d) => bytes.length + uptoBulk d + 1
  | (_, d) => uptoBulk d + 1
 end
def uptoSmall : (H : Type) → List (DataW H) → Bool := fun _ ds => decide (uptoBulkAll ds ≤ 1048576)
def OpenSpec.upto (s : _root_.Go.ChangeSpec) : _root_.Go.OpenSpec := { _root_.Go.OpenSpec.ofChange s with cond := some uptoSmall }

/-- 'preludelaw02.KeysSplits', WHERE WHAT IT READS IS OF BULK AT MOST 1048576: true; the input reads as it did. -/
def keysSplitsUptoRow : OpenClaim := { program := "ytnjgaibcpcpmcab", sum := "f1b7e0bb8400fe923434f4006e1d8592d535b6b76012ba1c82d8205d5e6d98bc", func := "prelude/preludelaw02.KeysSplits", spec := "keysSplits", unfollowed := true, recurses := true, apart := false, narrowed := true }
def KeysSplitsUptoSaid : Prop := keysSplitsUptoRow.holds Try.pinned (OpenSpec.upto keysSplitsSpec)

/-- 'preludelaw02.KeysExact', WHERE WHAT IT READS IS OF BULK AT MOST 1048576: true; the input reads as it did. -/
def keysExactUptoRow : OpenClaim := { program := "ytnjgaibcpcpmcab", sum := "f1b7e0bb8400fe923434f4006e1d8592d535b6b76012ba1c82d8205d5e6d98bc", func := "prelude/preludelaw02.KeysExact", spec := "keysExact", unfollowed := true, recurses := true, apart := false, narrowed := true }
def KeysExactUptoSaid : Prop := keysExactUptoRow.holds Try.pinned (OpenSpec.upto keysExactSpec)

/-- 'preludelaw02.KeysWalks', WHERE WHAT IT READS IS OF BULK AT MOST 1048576: true; the input reads as it did. -/
def keysWalksUptoRow : OpenClaim := { program := "ytnjgaibcpcpmcab", sum := "f1b7e0bb8400fe923434f4006e1d8592d535b6b76012ba1c82d8205d5e6d98bc", func := "prelude/preludelaw02.KeysWalks", spec := "keysWalks", unfollowed := true, recurses := true, apart := false, narrowed := true }
def KeysWalksUptoSaid : Prop := keysWalksUptoRow.holds Try.pinned (OpenSpec.upto keysWalksSpec)

end Rows
end Go.Proofs.Ytnjgaibcpcpmcab
