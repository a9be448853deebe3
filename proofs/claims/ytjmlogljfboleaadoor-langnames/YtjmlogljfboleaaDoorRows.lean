/-
  NARROWER THAN 'FOR EVERY INPUT', by the rows' own cells (each row's printed sentence says how): LangNames: laid · LangCodes: laid.
  DERIVED. THE GIVEN ROWS OF THIS SEAT. 2 by the template 'for every input the law returns true; each argument reads behind the call as it read before'; 0 by the template 'total and deterministic' (their statements: YtjmlogljfboleaaDoorTotals.lean).
  GIVEN WITH THE SEED: the statements are not yours to turn. If you find one false, say at which input.
  Laid BY PROGRAM, IN A SANDBOX (cutbox-rows.mjs): the forced cells as the released guide's own fill.sh prints them over the translation 67f69e094fdbcfd3… (all of the seat's roots in one cut). By AI agents, Wed Nov 11 2026. No macro, syntax, notation, axiom, sorry.
-/
import Derived.Test.YtjmlogljfboleaaDoorChecked
import GoSem.Claim
import GoSem.ClaimJoined
import GoSem.ClaimMapViews
import Derived.JoinedTies
import Derived.KernelRfl
namespace Go.Proofs.YtjmlogljfboleaaDoor
/- THE CELL 'sum', in the pinned program and in every row, IS THE sha256 OF THE DUMP (.gsa) THAT YtjmlogljfboleaaDoorProg.lean LOADS. Nothing in Lean hashes anything: it is a label: what it is worth is what the hold of that sum in a sandbox is worth. -/
noncomputable def Tryd.pinned : Pinned := { name := "ytjmlogljfboleaadoor", sum := "67f69e094fdbcfd39a075f02dbafa4728988902b87c8b5173d2b2891aef17442", checked := Tryd.checked }
namespace Rows
def none {H : Type} : Left H := { results := [], args := [] }

/- WHAT THE LISTED PACKAGE-LEVEL VARIABLES READ AS WHEN THE CALL BEGINS. Each datum BY PROGRAM (the guide's laid-datum.mjs) off the statement by which the dump's own 'gosem.cut.vars' lays the variable. In a bare row this is a premise. The card (YtjmlogljfboleaaDoorCards.lean) ties it to the program's text. -/
def laid_prelude_lang_names {H : Type} : DataW H := .agg [.lit (.string [115, 116, 111, 112]), .lit (.string [112, 117, 115, 104]), .lit (.string [112, 111, 112]), .lit (.string [100, 117, 112]), .lit (.string [108, 111, 97, 100]), .lit (.string [115, 97, 118, 101]), .lit (.string [97, 114, 103]), .lit (.string [103, 101, 116]), .lit (.string [104, 97, 115]), .lit (.string [103, 101, 116, 120]), .lit (.string [97, 100, 100]), .lit (.string [115, 117, 98]), .lit (.string [109, 117, 108]), .lit (.string [100, 105, 118]), .lit (.string [109, 111, 100]), .lit (.string [97, 110, 100]), .lit (.string [111, 114]), .lit (.string [120, 111, 114]), .lit (.string [115, 104, 108]), .lit (.string [115, 104, 114]), .lit (.string [110, 101, 103]), .lit (.string [110, 111, 116]), .lit (.string [101, 113]), .lit (.string [110, 101]), .lit (.string [108, 116]), .lit (.string [108, 101]), .lit (.string [103, 116]), .lit (.string [103, 101]), .lit (.string [109, 105, 110]), .lit (.string [109, 97, 120]), .lit (.string [106, 117, 109, 112]), .lit (.string [122, 101, 114, 111]), .lit (.string [112, 117, 116]), .lit (.string [100, 101, 108]), .lit (.string [112, 117, 116, 120]), .lit (.string [111, 117, 116]), .lit (.string [97, 98, 111, 114, 116])]
def laid_prelude_codec_halfRemainders {H : Type} : DataW H := .agg [.lit (.int .u32 0), .lit (.int .u32 498536548), .lit (.int .u32 997073096), .lit (.int .u32 651767980), .lit (.int .u32 1994146192), .lit (.int .u32 1802195444), .lit (.int .u32 1303535960), .lit (.int .u32 1342533948), .lit (.int .u32 3988292384), .lit (.int .u32 4027552580), .lit (.int .u32 3604390888), .lit (.int .u32 3412177804), .lit (.int .u32 2607071920), .lit (.int .u32 2262029012), .lit (.int .u32 2685067896), .lit (.int .u32 3183342108)]

/-- 'preludelaw03.LangNames': WHATEVER THE INPUT: true; the input reads as it did. -/
def langNamesSpec : ChangeSpec := { name := "langNames", fn := fun _ => fun
  | [d1, d2] => { results := [.lit (.bool true)], args := [d1, d2] }
  | _ => none }
def langNamesRow : OpenClaim := { program := "ytjmlogljfboleaadoor", sum := "67f69e094fdbcfd39a075f02dbafa4728988902b87c8b5173d2b2891aef17442", func := "prelude/preludelaw03.LangNames", spec := "langNames", named := ["prelude/lang.names"], apart := false, laid := [("prelude/lang.names", laid_prelude_lang_names)] }
def LangNamesSaid : Prop := langNamesRow.holds Tryd.pinned (OpenSpec.ofChange langNamesSpec)

/-- ITS FALSE NEIGHBOUR: 'it returns false'. Refute it at one input. -/
def langNamesWrong : ChangeSpec := { name := "langNames", fn := fun _ => fun
  | [d1, d2] => { results := [.lit (.bool false)], args := [d1, d2] }
  | _ => none }
def LangNamesWrongFalsely : Prop := langNamesRow.holds Tryd.pinned (OpenSpec.ofChange langNamesWrong)

/-- 'preludelaw03.LangCodes': WHATEVER THE INPUT: true; the input reads as it did. -/
def langCodesSpec : ChangeSpec := { name := "langCodes", fn := fun _ => fun
  | [d1, d2] => { results := [.lit (.bool true)], args := [d1, d2] }
  | _ => none }
def langCodesRow : OpenClaim := { program := "ytjmlogljfboleaadoor", sum := "67f69e094fdbcfd39a075f02dbafa4728988902b87c8b5173d2b2891aef17442", func := "prelude/preludelaw03.LangCodes", spec := "langCodes", named := ["prelude/codec.halfRemainders"], apart := false, laid := [("prelude/codec.halfRemainders", laid_prelude_codec_halfRemainders)] }
def LangCodesSaid : Prop := langCodesRow.holds Tryd.pinned (OpenSpec.ofChange langCodesSpec)

/-- ITS FALSE NEIGHBOUR: 'it returns false'. Refute it at one input. -/
def langCodesWrong : ChangeSpec := { name := "langCodes", fn := fun _ => fun
  | [d1, d2] => { results := [.lit (.bool false)], args := [d1, d2] }
  | _ => none }
def LangCodesWrongFalsely : Prop := langCodesRow.holds Tryd.pinned (OpenSpec.ofChange langCodesWrong)

/- THE SECOND FORM. 'bulk': how many values and letters a reading holds, each counted each time it is reached (what is shared counts as often as it is met; a slice's spare places count too). A statement '..UptoSaid' is the law's where the arguments, and the package variables that the reading takes, are together of bulk at most 1048576: NARROWER than '..Said'. Prove '..Said' where nothing that the law and all that it calls make is longer than what came in: it says more and counts as full. Else prove '..UptoSaid'. A law counts once. -/
mutual
def uptoBulk {H : Type} : DataW H → Nat
  | .lit (.string bytes) => bytes.length + 1
  | .lit _ => 1
  | .nil => 1
  | .ptr d => uptoBulk d + 1
  | .slice elems spare => uptoBulkAll elems + uptoBulkAll spare + 1
  | .agg parts => uptoBulkAll parts + 1
  | .iface _ d => uptoBulk d + 1
  | .map entries => uptoBulkEntries entries + 1
  | .held _ => 1
def uptoBulkAll {H : Type} : List (DataW H) → Nat
  | [] => 0
  | d :: r => uptoBulk d + uptoBulkAll r
def uptoBulkEntries {H : Type} : List (Lit × DataW H) → Nat
  | [] => 0
  | x :: r => uptoBulkEntry x + uptoBulkEntries r
def uptoBulkEntry {H : Type} : Lit × DataW H → Nat
  | (.string bytes, d) => bytes.length + uptoBulk d + 1
  | (_, d) => uptoBulk d + 1
 end
def uptoSmall : (H : Type) → List (DataW H) → Bool := fun _ ds => decide (uptoBulkAll ds ≤ 1048576)
def OpenSpec.upto (s : _root_.Go.ChangeSpec) : _root_.Go.OpenSpec := { _root_.Go.OpenSpec.ofChange s with cond := some uptoSmall }

/-- 'preludelaw03.LangNames', WHERE WHAT IT READS IS OF BULK AT MOST 1048576: true; the input reads as it did. -/
def langNamesUptoRow : OpenClaim := { program := "ytjmlogljfboleaadoor", sum := "67f69e094fdbcfd39a075f02dbafa4728988902b87c8b5173d2b2891aef17442", func := "prelude/preludelaw03.LangNames", spec := "langNames", named := ["prelude/lang.names"], apart := false, laid := [("prelude/lang.names", laid_prelude_lang_names)], narrowed := true }
def LangNamesUptoSaid : Prop := langNamesUptoRow.holds Tryd.pinned (OpenSpec.upto langNamesSpec)

/-- 'preludelaw03.LangCodes', WHERE WHAT IT READS IS OF BULK AT MOST 1048576: true; the input reads as it did. -/
def langCodesUptoRow : OpenClaim := { program := "ytjmlogljfboleaadoor", sum := "67f69e094fdbcfd39a075f02dbafa4728988902b87c8b5173d2b2891aef17442", func := "prelude/preludelaw03.LangCodes", spec := "langCodes", named := ["prelude/codec.halfRemainders"], apart := false, laid := [("prelude/codec.halfRemainders", laid_prelude_codec_halfRemainders)], narrowed := true }
def LangCodesUptoSaid : Prop := langCodesUptoRow.holds Tryd.pinned (OpenSpec.upto langCodesSpec)

end Rows
end Go.Proofs.YtjmlogljfboleaaDoor
