/-
  No cell of these rows narrows 'for every input' (looked for: loops, veiled, ifaces, maps, wideKeys, modest, calm, conditions, laid).
  DERIVED. THE GIVEN ROWS OF THIS SEAT. 5 by the template 'for every input the law returns true; each argument reads behind the call as it read before'; 0 by the template 'total and deterministic' (their statements: YtibdogniiglcjabTotals.lean).
  GIVEN WITH THE SEED: the statements are not yours to turn. If you find one false, say at which input.
  Laid BY PROGRAM, IN A SANDBOX (cutbox-rows.mjs): the forced cells as the released guide's own fill.sh prints them over the translation b5608077054e7eb1… (all of the seat's roots in one cut). By AI agents, Wed Nov 11 2026. No macro, syntax, notation, axiom, sorry.
-/
import Derived.Test.YtibdogniiglcjabChecked
import GoSem.Claim
import GoSem.ClaimJoined
import GoSem.ClaimMapViews
import Derived.JoinedTies
import Derived.KernelRfl
namespace Go.Proofs.Ytibdogniiglcjab
/- THE CELL 'sum', in the pinned program and in every row, IS THE sha256 OF THE DUMP (.gsa) THAT YtibdogniiglcjabProg.lean LOADS. Nothing in Lean hashes anything: it is a label: what it is worth is what the hold of that sum in a sandbox is worth. -/
noncomputable def Try.pinned : Pinned := { name := "ytibdogniiglcjab", sum := "b5608077054e7eb15ff7fabc69bb4ebf0d6899542065e3025e5a69b4b5e94387", checked := Try.checked }
namespace Rows
def none {H : Type} : Left H := { results := [], args := [] }

/-- 'preludelaw10.BookDoor': WHATEVER THE INPUT: true; the input reads as it did. -/
def bookDoorSpec : ChangeSpec := { name := "bookDoor", fn := fun _ => fun
  | [d1, d2] => { results := [.lit (.bool true)], args := [d1, d2] }
  | _ => none }
def bookDoorRow : OpenClaim := { program := "ytibdogniiglcjab", sum := "b5608077054e7eb15ff7fabc69bb4ebf0d6899542065e3025e5a69b4b5e94387", func := "prelude/preludelaw10.BookDoor", spec := "bookDoor", unfollowed := true, recurses := true, plainKeys := false, apart := false }
def BookDoorSaid : Prop := bookDoorRow.holds Try.pinned (OpenSpec.ofChange bookDoorSpec)

/-- ITS FALSE NEIGHBOUR: 'it returns false'. Refute it at one input. -/
def bookDoorWrong : ChangeSpec := { name := "bookDoor", fn := fun _ => fun
  | [d1, d2] => { results := [.lit (.bool false)], args := [d1, d2] }
  | _ => none }
def BookDoorWrongFalsely : Prop := bookDoorRow.holds Try.pinned (OpenSpec.ofChange bookDoorWrong)

/-- 'preludelaw10.BookSees': WHATEVER THE INPUT: true; the input reads as it did. -/
def bookSeesSpec : ChangeSpec := { name := "bookSees", fn := fun _ => fun
  | [d1, d2] => { results := [.lit (.bool true)], args := [d1, d2] }
  | _ => none }
def bookSeesRow : OpenClaim := { program := "ytibdogniiglcjab", sum := "b5608077054e7eb15ff7fabc69bb4ebf0d6899542065e3025e5a69b4b5e94387", func := "prelude/preludelaw10.BookSees", spec := "bookSees", unfollowed := true, recurses := true, plainKeys := false, apart := false }
def BookSeesSaid : Prop := bookSeesRow.holds Try.pinned (OpenSpec.ofChange bookSeesSpec)

/-- ITS FALSE NEIGHBOUR: 'it returns false'. Refute it at one input. -/
def bookSeesWrong : ChangeSpec := { name := "bookSees", fn := fun _ => fun
  | [d1, d2] => { results := [.lit (.bool false)], args := [d1, d2] }
  | _ => none }
def BookSeesWrongFalsely : Prop := bookSeesRow.holds Try.pinned (OpenSpec.ofChange bookSeesWrong)

/-- 'preludelaw10.BookShort': WHATEVER THE INPUT: true; the input reads as it did. -/
def bookShortSpec : ChangeSpec := { name := "bookShort", fn := fun _ => fun
  | [d1, d2, d3] => { results := [.lit (.bool true)], args := [d1, d2, d3] }
  | _ => none }
def bookShortRow : OpenClaim := { program := "ytibdogniiglcjab", sum := "b5608077054e7eb15ff7fabc69bb4ebf0d6899542065e3025e5a69b4b5e94387", func := "prelude/preludelaw10.BookShort", spec := "bookShort", unfollowed := true, recurses := true, plainKeys := false, apart := false }
def BookShortSaid : Prop := bookShortRow.holds Try.pinned (OpenSpec.ofChange bookShortSpec)

/-- ITS FALSE NEIGHBOUR: 'it returns false'. Refute it at one input. -/
def bookShortWrong : ChangeSpec := { name := "bookShort", fn := fun _ => fun
  | [d1, d2, d3] => { results := [.lit (.bool false)], args := [d1, d2, d3] }
  | _ => none }
def BookShortWrongFalsely : Prop := bookShortRow.holds Try.pinned (OpenSpec.ofChange bookShortWrong)

/-- 'preludelaw10.BookBack': WHATEVER THE INPUT: true; the input reads as it did. -/
def bookBackSpec : ChangeSpec := { name := "bookBack", fn := fun _ => fun
  | [d1, d2, d3] => { results := [.lit (.bool true)], args := [d1, d2, d3] }
  | _ => none }
def bookBackRow : OpenClaim := { program := "ytibdogniiglcjab", sum := "b5608077054e7eb15ff7fabc69bb4ebf0d6899542065e3025e5a69b4b5e94387", func := "prelude/preludelaw10.BookBack", spec := "bookBack", unfollowed := true, recurses := true, plainKeys := false, apart := false }
def BookBackSaid : Prop := bookBackRow.holds Try.pinned (OpenSpec.ofChange bookBackSpec)

/-- ITS FALSE NEIGHBOUR: 'it returns false'. Refute it at one input. -/
def bookBackWrong : ChangeSpec := { name := "bookBack", fn := fun _ => fun
  | [d1, d2, d3] => { results := [.lit (.bool false)], args := [d1, d2, d3] }
  | _ => none }
def BookBackWrongFalsely : Prop := bookBackRow.holds Try.pinned (OpenSpec.ofChange bookBackWrong)

/-- 'preludelaw10.BookRefused': WHATEVER THE INPUT: true; the input reads as it did. -/
def bookRefusedSpec : ChangeSpec := { name := "bookRefused", fn := fun _ => fun
  | [d1, d2] => { results := [.lit (.bool true)], args := [d1, d2] }
  | _ => none }
def bookRefusedRow : OpenClaim := { program := "ytibdogniiglcjab", sum := "b5608077054e7eb15ff7fabc69bb4ebf0d6899542065e3025e5a69b4b5e94387", func := "prelude/preludelaw10.BookRefused", spec := "bookRefused", unfollowed := true, recurses := true, plainKeys := false, apart := false }
def BookRefusedSaid : Prop := bookRefusedRow.holds Try.pinned (OpenSpec.ofChange bookRefusedSpec)

/-- ITS FALSE NEIGHBOUR: 'it returns false'. Refute it at one input. -/
def bookRefusedWrong : ChangeSpec := { name := "bookRefused", fn := fun _ => fun
  | [d1, d2] => { results := [.lit (.bool false)], args := [d1, d2] }
  | _ => none }
def BookRefusedWrongFalsely : Prop := bookRefusedRow.holds Try.pinned (OpenSpec.ofChange bookRefusedWrong)

/- THE SECOND FORM. 'bulk': how many values and letters a reading holds, each counted each time it is reached (what is shared counts as often as it is met; a slice's spare places count too). A statement '..UptoSaid' is the law's where the arguments, and the package variables that the reading takes, are together of bulk at most 1048576: NARROWER than '..Said'. Prove '..Said' where nothing that the law and all that it calls make is longer than what came in: it says more and counts as full. Else prove '..UptoSaid'. A law counts once. -/
mutual
def uptoBulk {H : Type} : DataW H → Nat
  | .lit (.string bytes) => bytes.length + 1
  | .lit _ => 1
  | .nil => 1
  | .ptr d => uptoBulk d + 1
  | .slice elems spare => uptoBulkAll elems + uptoBulkAll spare + 1
  | .agg parts => uptoBulkAll parts + 1
  | .iface _ d => uptoBulk d + 1
  | .map entries => uptoBulkEntries entries + 1
  | .held _ => 1
def uptoBulkAll {H : Type} : List (DataW H) → Nat
  | [] => 0
  | d :: r => uptoBulk d + uptoBulkAll r
def uptoBulkEntries {H : Type} : List (Lit × DataW H) → Nat
  | [] => 0
  | x :: r => uptoBulkEntry x + uptoBulkEntries r
def uptoBulkEntry {H : Type} : Lit × DataW H → Nat
  | (.string bytes, d) => bytes.length + uptoBulk d + 1
  | (_, d) => uptoBulk d + 1
 end
def uptoSmall : (H : Type) → List (DataW H) → Bool := fun _ ds => decide (uptoBulkAll ds ≤ 1048576)
def OpenSpec.upto (s : _root_.Go.ChangeSpec) : _root_.Go.OpenSpec := { _root_.Go.OpenSpec.ofChange s with cond := some uptoSmall }

/-- 'preludelaw10.BookDoor', WHERE WHAT IT READS IS OF BULK AT MOST 1048576: true; the input reads as it did. -/
def bookDoorUptoRow : OpenClaim := { program := "ytibdogniiglcjab", sum := "b5608077054e7eb15ff7fabc69bb4ebf0d6899542065e3025e5a69b4b5e94387", func := "prelude/preludelaw10.BookDoor", spec := "bookDoor", unfollowed := true, recurses := true, plainKeys := false, apart := false, narrowed := true }
def BookDoorUptoSaid : Prop := bookDoorUptoRow.holds Try.pinned (OpenSpec.upto bookDoorSpec)

/-- 'preludelaw10.BookSees', WHERE WHAT IT READS IS OF BULK AT MOST 1048576: true; the input reads as it did. -/
def bookSeesUptoRow : OpenClaim := { program := "ytibdogniiglcjab", sum := "b5608077054e7eb15ff7fabc69bb4ebf0d6899542065e3025e5a69b4b5e94387", func := "prelude/preludelaw10.BookSees", spec := "bookSees", unfollowed := true, recurses := true, plainKeys := false, apart := false, narrowed := true }
def BookSeesUptoSaid : Prop := bookSeesUptoRow.holds Try.pinned (OpenSpec.upto bookSeesSpec)

/-- 'preludelaw10.BookShort', WHERE WHAT IT READS IS OF BULK AT MOST 1048576: true; the input reads as it did. -/
def bookShortUptoRow : OpenClaim := { program := "ytibdogniiglcjab", sum := "b5608077054e7eb15ff7fabc69bb4ebf0d6899542065e3025e5a69b4b5e94387", func := "prelude/preludelaw10.BookShort", spec := "bookShort", unfollowed := true, recurses := true, plainKeys := false, apart := false, narrowed := true }
def BookShortUptoSaid : Prop := bookShortUptoRow.holds Try.pinned (OpenSpec.upto bookShortSpec)

/-- 'preludelaw10.BookBack', WHERE WHAT IT READS IS OF BULK AT MOST 1048576: true; the input reads as it did. -/
def bookBackUptoRow : OpenClaim := { program := "ytibdogniiglcjab", sum := "b5608077054e7eb15ff7fabc69bb4ebf0d6899542065e3025e5a69b4b5e94387", func := "prelude/preludelaw10.BookBack", spec := "bookBack", unfollowed := true, recurses := true, plainKeys := false, apart := false, narrowed := true }
def BookBackUptoSaid : Prop := bookBackUptoRow.holds Try.pinned (OpenSpec.upto bookBackSpec)

/-- 'preludelaw10.BookRefused', WHERE WHAT IT READS IS OF BULK AT MOST 1048576: true; the input reads as it did. -/
def bookRefusedUptoRow : OpenClaim := { program := "ytibdogniiglcjab", sum := "b5608077054e7eb15ff7fabc69bb4ebf0d6899542065e3025e5a69b4b5e94387", func := "prelude/preludelaw10.BookRefused", spec := "bookRefused", unfollowed := true, recurses := true, plainKeys := false, apart := false, narrowed := true }
def BookRefusedUptoSaid : Prop := bookRefusedUptoRow.holds Try.pinned (OpenSpec.upto bookRefusedSpec)

end Rows
end Go.Proofs.Ytibdogniiglcjab
