/-
  No cell of these rows narrows 'for every input' (looked for: loops, veiled, ifaces, maps, wideKeys, modest, calm, conditions, laid).
  DERIVED. THE GIVEN ROWS OF THIS SEAT. 2 by the template 'for every input the law returns true; each argument reads behind the call as it read before'; 0 by the template 'total and deterministic' (their statements: YtonefdbfodjadabTotals.lean).
  GIVEN WITH THE SEED: the statements are not yours to turn. If you find one false, say at which input.
  Laid BY PROGRAM, IN A SANDBOX (cutbox-rows.mjs): the forced cells as the released guide's own fill.sh prints them over the translation cdbe3ce1c451f9ef… (all of the seat's roots in one cut). By AI agents, Wed Nov 11 2026. No macro, syntax, notation, axiom, sorry.
-/
import Derived.Test.YtonefdbfodjadabChecked
import GoSem.Claim
import GoSem.ClaimJoined
import GoSem.ClaimMapViews
import Derived.JoinedTies
import Derived.KernelRfl
namespace Go.Proofs.Ytonefdbfodjadab
/- THE CELL 'sum', in the pinned program and in every row, IS THE sha256 OF THE DUMP (.gsa) THAT YtonefdbfodjadabProg.lean LOADS. Nothing in Lean hashes anything: it is a label: what it is worth is what the hold of that sum in a sandbox is worth. -/
noncomputable def Try.pinned : Pinned := { name := "ytonefdbfodjadab", sum := "cdbe3ce1c451f9ef071e83ff7b150e46124eaca022169dd34df2bc5d24f97c98", checked := Try.checked }
namespace Rows
def none {H : Type} : Left H := { results := [], args := [] }

/-- 'preludelaw06.BatchEnds': WHATEVER THE INPUT: true; the input reads as it did. -/
def batchEndsSpec : ChangeSpec := { name := "batchEnds", fn := fun _ => fun
  | [d1, d2, d3, d4] => { results := [.lit (.bool true)], args := [d1, d2, d3, d4] }
  | _ => none }
def batchEndsRow : OpenClaim := { program := "ytonefdbfodjadab", sum := "cdbe3ce1c451f9ef071e83ff7b150e46124eaca022169dd34df2bc5d24f97c98", func := "prelude/preludelaw06.BatchEnds", spec := "batchEnds", unfollowed := true, recurses := true, apart := false }
def BatchEndsSaid : Prop := batchEndsRow.holds Try.pinned (OpenSpec.ofChange batchEndsSpec)

/-- ITS FALSE NEIGHBOUR: 'it returns false'. Refute it at one input. -/
def batchEndsWrong : ChangeSpec := { name := "batchEnds", fn := fun _ => fun
  | [d1, d2, d3, d4] => { results := [.lit (.bool false)], args := [d1, d2, d3, d4] }
  | _ => none }
def BatchEndsWrongFalsely : Prop := batchEndsRow.holds Try.pinned (OpenSpec.ofChange batchEndsWrong)

/-- 'preludelaw06.BatchOne': WHATEVER THE INPUT: true; the input reads as it did. -/
def batchOneSpec : ChangeSpec := { name := "batchOne", fn := fun _ => fun
  | [d1, d2] => { results := [.lit (.bool true)], args := [d1, d2] }
  | _ => none }
def batchOneRow : OpenClaim := { program := "ytonefdbfodjadab", sum := "cdbe3ce1c451f9ef071e83ff7b150e46124eaca022169dd34df2bc5d24f97c98", func := "prelude/preludelaw06.BatchOne", spec := "batchOne", unfollowed := true, recurses := true, apart := false }
def BatchOneSaid : Prop := batchOneRow.holds Try.pinned (OpenSpec.ofChange batchOneSpec)

/-- ITS FALSE NEIGHBOUR: 'it returns false'. Refute it at one input. -/
def batchOneWrong : ChangeSpec := { name := "batchOne", fn := fun _ => fun
  | [d1, d2] => { results := [.lit (.bool false)], args := [d1, d2] }
  | _ => none }
def BatchOneWrongFalsely : Prop := batchOneRow.holds Try.pinned (OpenSpec.ofChange batchOneWrong)

/- THE SECOND FORM. 'bulk': how many values and letters a reading holds, each counted each time it is reached (what is shared counts as often as it is met; a slice's spare places count too). A statement '..UptoSaid' is the law's where the arguments, and the package variables that the reading takes, are together of bulk at most 1048576: NARROWER than '..Said'. Prove '..Said' where nothing that the law and all that it calls make is longer than what came in: it says more and counts as full. Else prove '..UptoSaid'. A law counts once. -/
mutual
def uptoBulk {H : Type} : DataW H → Nat
  | .lit (.string bytes) => bytes.length + 1
  | .lit _ => 1
  | .nil => 1
  | .ptr d => uptoBulk d + 1
  | .slice elems spare => uptoBulkAll elems + uptoBulkAll spare + 1
  | .agg parts => uptoBulkAll parts + 1
  | .iface _ d => uptoBulk d + 1
  | .map entries => uptoBulkEntries entries + 1
  | .held _ => 1
def uptoBulkAll {H : Type} : List (DataW H) → Nat
  | [] => 0
  | d :: r => uptoBulk d + uptoBulkAll r
def uptoBulkEntries {H : Type} : List (Lit × DataW H) → Nat
  | [] => 0
  | x :: r => uptoBulkEntry x + uptoBulkEntries r
def uptoBulkEntry {H : Type} : Lit × DataW H → Nat
  | (.string bytes, d) => bytes.length + uptoBulk d + 1
  | (_, d) => uptoBulk d + 1
 end
def uptoSmall : (H : Type) → List (DataW H) → Bool := fun _ ds => decide (uptoBulkAll ds ≤ 1048576)
def OpenSpec.upto (s : _root_.Go.ChangeSpec) : _root_.Go.OpenSpec := { _root_.Go.OpenSpec.ofChange s with cond := some uptoSmall }

/-- 'preludelaw06.BatchEnds', WHERE WHAT IT READS IS OF BULK AT MOST 1048576: true; the input reads as it did. -/
def batchEndsUptoRow : OpenClaim := { program := "ytonefdbfodjadab", sum := "cdbe3ce1c451f9ef071e83ff7b150e46124eaca022169dd34df2bc5d24f97c98", func := "prelude/preludelaw06.BatchEnds", spec := "batchEnds", unfollowed := true, recurses := true, apart := false, narrowed := true }
def BatchEndsUptoSaid : Prop := batchEndsUptoRow.holds Try.pinned (OpenSpec.upto batchEndsSpec)

/-- 'preludelaw06.BatchOne', WHERE WHAT IT READS IS OF BULK AT MOST 1048576: true; the input reads as it did. -/
def batchOneUptoRow : OpenClaim := { program := "ytonefdbfodjadab", sum := "cdbe3ce1c451f9ef071e83ff7b150e46124eaca022169dd34df2bc5d24f97c98", func := "prelude/preludelaw06.BatchOne", spec := "batchOne", unfollowed := true, recurses := true, apart := false, narrowed := true }
def BatchOneUptoSaid : Prop := batchOneUptoRow.holds Try.pinned (OpenSpec.upto batchOneSpec)

end Rows
end Go.Proofs.Ytonefdbfodjadab
