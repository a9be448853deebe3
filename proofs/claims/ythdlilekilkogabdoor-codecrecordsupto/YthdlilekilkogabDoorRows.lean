/-
  NARROWER THAN 'FOR EVERY INPUT', by the rows' own cells (each row's printed sentence says how): CodecBursts: laid · CodecRecords: laid · CodecFlips: laid.
  DERIVED. THE GIVEN ROWS OF THIS SEAT. 3 by the template 'for every input the law returns true; each argument reads behind the call as it read before'; 0 by the template 'total and deterministic' (their statements: YthdlilekilkogabDoorTotals.lean).
  GIVEN WITH THE SEED: the statements are not yours to turn. If you find one false, say at which input.
  Laid BY PROGRAM, IN A SANDBOX (cutbox-rows.mjs): the forced cells as the released guide's own fill.sh prints them over the translation a2c4a3fca3236123… (all of the seat's roots in one cut). By AI agents, Wed Nov 11 2026. No macro, syntax, notation, axiom, sorry.
-/
import Derived.Test.YthdlilekilkogabDoorChecked
import GoSem.Claim
import GoSem.ClaimJoined
import GoSem.ClaimMapViews
import Derived.JoinedTies
import Derived.KernelRfl
namespace Go.Proofs.YthdlilekilkogabDoor
/- THE CELL 'sum', in the pinned program and in every row, IS THE sha256 OF THE DUMP (.gsa) THAT YthdlilekilkogabDoorProg.lean LOADS. Nothing in Lean hashes anything: it is a label: what it is worth is what the hold of that sum in a sandbox is worth. -/
noncomputable def Tryd.pinned : Pinned := { name := "ythdlilekilkogabdoor", sum := "a2c4a3fca323612349f84ff429a0871fd0c0303ec05cec6c0ac4ce9e5a20c2ca", checked := Tryd.checked }
namespace Rows
def none {H : Type} : Left H := { results := [], args := [] }

/- WHAT THE LISTED PACKAGE-LEVEL VARIABLES READ AS WHEN THE CALL BEGINS. Each datum BY PROGRAM (the guide's laid-datum.mjs) off the statement by which the dump's own 'gosem.cut.vars' lays the variable. In a bare row this is a premise. The card (YthdlilekilkogabDoorCards.lean) ties it to the program's text. -/
def laid_prelude_codec_halfRemainders {H : Type} : DataW H := .agg [.lit (.int .u32 0), .lit (.int .u32 498536548), .lit (.int .u32 997073096), .lit (.int .u32 651767980), .lit (.int .u32 1994146192), .lit (.int .u32 1802195444), .lit (.int .u32 1303535960), .lit (.int .u32 1342533948), .lit (.int .u32 3988292384), .lit (.int .u32 4027552580), .lit (.int .u32 3604390888), .lit (.int .u32 3412177804), .lit (.int .u32 2607071920), .lit (.int .u32 2262029012), .lit (.int .u32 2685067896), .lit (.int .u32 3183342108)]

/-- 'preludelaw01.CodecBursts': WHATEVER THE INPUT: true; the input reads as it did. -/
def codecBurstsSpec : ChangeSpec := { name := "codecBursts", fn := fun _ => fun
  | [d1, d2, d3] => { results := [.lit (.bool true)], args := [d1, d2, d3] }
  | _ => none }
def codecBurstsRow : OpenClaim := { program := "ythdlilekilkogabdoor", sum := "a2c4a3fca323612349f84ff429a0871fd0c0303ec05cec6c0ac4ce9e5a20c2ca", func := "prelude/preludelaw01.CodecBursts", spec := "codecBursts", named := ["prelude/codec.halfRemainders"], apart := false, laid := [("prelude/codec.halfRemainders", laid_prelude_codec_halfRemainders)] }
def CodecBurstsSaid : Prop := codecBurstsRow.holds Tryd.pinned (OpenSpec.ofChange codecBurstsSpec)

/-- ITS FALSE NEIGHBOUR: 'it returns false'. Refute it at one input. -/
def codecBurstsWrong : ChangeSpec := { name := "codecBursts", fn := fun _ => fun
  | [d1, d2, d3] => { results := [.lit (.bool false)], args := [d1, d2, d3] }
  | _ => none }
def CodecBurstsWrongFalsely : Prop := codecBurstsRow.holds Tryd.pinned (OpenSpec.ofChange codecBurstsWrong)

/-- 'preludelaw01.CodecRecords': WHATEVER THE INPUT: true; the input reads as it did. -/
def codecRecordsSpec : ChangeSpec := { name := "codecRecords", fn := fun _ => fun
  | [d1, d2, d3] => { results := [.lit (.bool true)], args := [d1, d2, d3] }
  | _ => none }
def codecRecordsRow : OpenClaim := { program := "ythdlilekilkogabdoor", sum := "a2c4a3fca323612349f84ff429a0871fd0c0303ec05cec6c0ac4ce9e5a20c2ca", func := "prelude/preludelaw01.CodecRecords", spec := "codecRecords", named := ["prelude/codec.halfRemainders"], apart := false, laid := [("prelude/codec.halfRemainders", laid_prelude_codec_halfRemainders)] }
def CodecRecordsSaid : Prop := codecRecordsRow.holds Tryd.pinned (OpenSpec.ofChange codecRecordsSpec)

/-- ITS FALSE NEIGHBOUR: 'it returns false'. Refute it at one input. -/
def codecRecordsWrong : ChangeSpec := { name := "codecRecords", fn := fun _ => fun
  | [d1, d2, d3] => { results := [.lit (.bool false)], args := [d1, d2, d3] }
  | _ => none }
def CodecRecordsWrongFalsely : Prop := codecRecordsRow.holds Tryd.pinned (OpenSpec.ofChange codecRecordsWrong)

/-- 'preludelaw01.CodecFlips': WHATEVER THE INPUT: true; the input reads as it did. -/
def codecFlipsSpec : ChangeSpec := { name := "codecFlips", fn := fun _ => fun
  | [d] => { results := [.lit (.bool true)], args := [d] }
  | _ => none }
def codecFlipsRow : OpenClaim := { program := "ythdlilekilkogabdoor", sum := "a2c4a3fca323612349f84ff429a0871fd0c0303ec05cec6c0ac4ce9e5a20c2ca", func := "prelude/preludelaw01.CodecFlips", spec := "codecFlips", named := ["prelude/codec.halfRemainders"], apart := false, laid := [("prelude/codec.halfRemainders", laid_prelude_codec_halfRemainders)] }
def CodecFlipsSaid : Prop := codecFlipsRow.holds Tryd.pinned (OpenSpec.ofChange codecFlipsSpec)

/-- ITS FALSE NEIGHBOUR: 'it returns false'. Refute it at one input. -/
def codecFlipsWrong : ChangeSpec := { name := "codecFlips", fn := fun _ => fun
  | [d] => { results := [.lit (.bool false)], args := [d] }
  | _ => none }
def CodecFlipsWrongFalsely : Prop := codecFlipsRow.holds Tryd.pinned (OpenSpec.ofChange codecFlipsWrong)

/- THE SECOND FORM. 'bulk': how many values and letters a reading holds, each counted each time it is reached (what is shared counts as often as it is met; a slice's spare places count too). A statement '..UptoSaid' is the law's where the arguments, and the package variables that the reading takes, are together of bulk at most 1048576: NARROWER than '..Said'. Prove '..Said' where nothing that the law and all that it calls make is longer than what came in: it says more and counts as full. Else prove '..UptoSaid'. A law counts once. -/
mutual
def uptoBulk {H : Type} : DataW H → Nat
  | .lit (.string bytes) => bytes.length + 1
  | .lit _ => 1
  | .nil => 1
  | .ptr d => uptoBulk d + 1
  | .slice elems spare => uptoBulkAll elems + uptoBulkAll spare + 1
  | .agg parts => uptoBulkAll parts + 1
  | .iface _ d => uptoBulk d + 1
  | .map entries => uptoBulkEntries entries + 1
  | .held _ => 1
def uptoBulkAll {H : Type} : List (DataW H) → Nat
  | [] => 0
  | d :: r => uptoBulk d + uptoBulkAll r
def uptoBulkEntries {H : Type} : List (Lit × DataW H) → Nat
  | [] => 0
  | x :: r => uptoBulkEntry x + uptoBulkEntries r
def uptoBulkEntry {H : Type} : Lit × DataW H → Nat
  | (.string bytes, d) => bytes.length + uptoBulk d + 1
  | (_, d) => uptoBulk d + 1
 end
def uptoSmall : (H : Type) → List (DataW H) → Bool := fun _ ds => decide (uptoBulkAll ds ≤ 1048576)
def OpenSpec.upto (s : _root_.Go.ChangeSpec) : _root_.Go.OpenSpec := { _root_.Go.OpenSpec.ofChange s with cond := some uptoSmall }

/-- 'preludelaw01.CodecBursts', WHERE WHAT IT READS IS OF BULK AT MOST 1048576: true; the input reads as it did. -/
def codecBurstsUptoRow : OpenClaim := { program := "ythdlilekilkogabdoor", sum := "a2c4a3fca323612349f84ff429a0871fd0c0303ec05cec6c0ac4ce9e5a20c2ca", func := "prelude/preludelaw01.CodecBursts", spec := "codecBursts", named := ["prelude/codec.halfRemainders"], apart := false, laid := [("prelude/codec.halfRemainders", laid_prelude_codec_halfRemainders)], narrowed := true }
def CodecBurstsUptoSaid : Prop := codecBurstsUptoRow.holds Tryd.pinned (OpenSpec.upto codecBurstsSpec)

/-- 'preludelaw01.CodecRecords', WHERE WHAT IT READS IS OF BULK AT MOST 1048576: true; the input reads as it did. -/
def codecRecordsUptoRow : OpenClaim := { program := "ythdlilekilkogabdoor", sum := "a2c4a3fca323612349f84ff429a0871fd0c0303ec05cec6c0ac4ce9e5a20c2ca", func := "prelude/preludelaw01.CodecRecords", spec := "codecRecords", named := ["prelude/codec.halfRemainders"], apart := false, laid := [("prelude/codec.halfRemainders", laid_prelude_codec_halfRemainders)], narrowed := true }
def CodecRecordsUptoSaid : Prop := codecRecordsUptoRow.holds Tryd.pinned (OpenSpec.upto codecRecordsSpec)

/-- 'preludelaw01.CodecFlips', WHERE WHAT IT READS IS OF BULK AT MOST 1048576: true; the input reads as it did. -/
def codecFlipsUptoRow : OpenClaim := { program := "ythdlilekilkogabdoor", sum := "a2c4a3fca323612349f84ff429a0871fd0c0303ec05cec6c0ac4ce9e5a20c2ca", func := "prelude/preludelaw01.CodecFlips", spec := "codecFlips", named := ["prelude/codec.halfRemainders"], apart := false, laid := [("prelude/codec.halfRemainders", laid_prelude_codec_halfRemainders)], narrowed := true }
def CodecFlipsUptoSaid : Prop := codecFlipsUptoRow.holds Tryd.pinned (OpenSpec.upto codecFlipsSpec)

end Rows
end Go.Proofs.YthdlilekilkogabDoor
