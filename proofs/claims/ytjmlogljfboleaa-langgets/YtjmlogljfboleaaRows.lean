/-
  No cell of these rows narrows 'for every input' (looked for: loops, veiled, ifaces, maps, wideKeys, modest, calm, conditions, laid).
  DERIVED. THE GIVEN ROWS OF THIS SEAT. 4 by the template 'for every input the law returns true; each argument reads behind the call as it read before'; 0 by the template 'total and deterministic' (their statements: YtjmlogljfboleaaTotals.lean).
  GIVEN WITH THE SEED: the statements are not yours to turn. If you find one false, say at which input.
  Laid BY PROGRAM, IN A SANDBOX (cutbox-rows.mjs): the forced cells as the released guide's own fill.sh prints them over the translation 7c07bcf750ad4e82… (all of the seat's roots in one cut). By AI agents, Wed Nov 11 2026. No macro, syntax, notation, axiom, sorry.
-/
import Derived.Test.YtjmlogljfboleaaChecked
import GoSem.Claim
import GoSem.ClaimJoined
import GoSem.ClaimMapViews
import Derived.JoinedTies
import Derived.KernelRfl
namespace Go.Proofs.Ytjmlogljfboleaa
/- THE CELL 'sum', in the pinned program and in every row, IS THE sha256 OF THE DUMP (.gsa) THAT YtjmlogljfboleaaProg.lean LOADS. Nothing in Lean hashes anything: it is a label: what it is worth is what the hold of that sum in a sandbox is worth. -/
noncomputable def Try.pinned : Pinned := { name := "ytjmlogljfboleaa", sum := "7c07bcf750ad4e8245b4c024dcabb460b2d2ad121a29e76cf2db8f87e119b4e8", checked := Try.checked }
namespace Rows
def none {H : Type} : Left H := { results := [], args := [] }

/-- 'preludelaw03.LangVerifies': WHATEVER THE INPUT: true; the input reads as it did. -/
def langVerifiesSpec : ChangeSpec := { name := "langVerifies", fn := fun _ => fun
  | [d] => { results := [.lit (.bool true)], args := [d] }
  | _ => none }
def langVerifiesRow : OpenClaim := { program := "ytjmlogljfboleaa", sum := "7c07bcf750ad4e8245b4c024dcabb460b2d2ad121a29e76cf2db8f87e119b4e8", func := "prelude/preludelaw03.LangVerifies", spec := "langVerifies", unfollowed := true, recurses := true, apart := false }
def LangVerifiesSaid : Prop := langVerifiesRow.holds Try.pinned (OpenSpec.ofChange langVerifiesSpec)

/-- ITS FALSE NEIGHBOUR: 'it returns false'. Refute it at one input. -/
def langVerifiesWrong : ChangeSpec := { name := "langVerifies", fn := fun _ => fun
  | [d] => { results := [.lit (.bool false)], args := [d] }
  | _ => none }
def LangVerifiesWrongFalsely : Prop := langVerifiesRow.holds Try.pinned (OpenSpec.ofChange langVerifiesWrong)

/-- 'preludelaw03.LangPuts': WHATEVER THE INPUT: true; the input reads as it did. -/
def langPutsSpec : ChangeSpec := { name := "langPuts", fn := fun _ => fun
  | [d1, d2] => { results := [.lit (.bool true)], args := [d1, d2] }
  | _ => none }
def langPutsRow : OpenClaim := { program := "ytjmlogljfboleaa", sum := "7c07bcf750ad4e8245b4c024dcabb460b2d2ad121a29e76cf2db8f87e119b4e8", func := "prelude/preludelaw03.LangPuts", spec := "langPuts", apart := false }
def LangPutsSaid : Prop := langPutsRow.holds Try.pinned (OpenSpec.ofChange langPutsSpec)

/-- ITS FALSE NEIGHBOUR: 'it returns false'. Refute it at one input. -/
def langPutsWrong : ChangeSpec := { name := "langPuts", fn := fun _ => fun
  | [d1, d2] => { results := [.lit (.bool false)], args := [d1, d2] }
  | _ => none }
def LangPutsWrongFalsely : Prop := langPutsRow.holds Try.pinned (OpenSpec.ofChange langPutsWrong)

/-- 'preludelaw03.LangGets': WHATEVER THE INPUT: true; the input reads as it did. -/
def langGetsSpec : ChangeSpec := { name := "langGets", fn := fun _ => fun
  | [d] => { results := [.lit (.bool true)], args := [d] }
  | _ => none }
def langGetsRow : OpenClaim := { program := "ytjmlogljfboleaa", sum := "7c07bcf750ad4e8245b4c024dcabb460b2d2ad121a29e76cf2db8f87e119b4e8", func := "prelude/preludelaw03.LangGets", spec := "langGets", apart := false }
def LangGetsSaid : Prop := langGetsRow.holds Try.pinned (OpenSpec.ofChange langGetsSpec)

/-- ITS FALSE NEIGHBOUR: 'it returns false'. Refute it at one input. -/
def langGetsWrong : ChangeSpec := { name := "langGets", fn := fun _ => fun
  | [d] => { results := [.lit (.bool false)], args := [d] }
  | _ => none }
def LangGetsWrongFalsely : Prop := langGetsRow.holds Try.pinned (OpenSpec.ofChange langGetsWrong)

/-- 'preludelaw03.LangChecks': WHATEVER THE INPUT: true; the input reads as it did. -/
def langChecksSpec : ChangeSpec := { name := "langChecks", fn := fun _ => fun
  | [d] => { results := [.lit (.bool true)], args := [d] }
  | _ => none }
def langChecksRow : OpenClaim := { program := "ytjmlogljfboleaa", sum := "7c07bcf750ad4e8245b4c024dcabb460b2d2ad121a29e76cf2db8f87e119b4e8", func := "prelude/preludelaw03.LangChecks", spec := "langChecks", apart := false }
def LangChecksSaid : Prop := langChecksRow.holds Try.pinned (OpenSpec.ofChange langChecksSpec)

/-- ITS FALSE NEIGHBOUR: 'it returns false'. Refute it at one input. -/
def langChecksWrong : ChangeSpec := { name := "langChecks", fn := fun _ => fun
  | [d] => { results := [.lit (.bool false)], args := [d] }
  | _ => none }
def LangChecksWrongFalsely : Prop := langChecksRow.holds Try.pinned (OpenSpec.ofChange langChecksWrong)

/- THE SECOND FORM. 'bulk': how many values and letters a reading holds, each counted each time it is reached (what is shared counts as often as it is met; a slice's spare places count too). A statement '..UptoSaid' is the law's where the arguments, and the package variables that the reading takes, are together of bulk at most 1048576: NARROWER than '..Said'. Prove '..Said' where nothing that the law and all that it calls make is longer than what came in: it says more and counts as full. Else prove '..UptoSaid'. A law counts once. -/
mutual
def uptoBulk {H : Type} : DataW H → Nat
  | .lit (.string bytes) => bytes.length + 1
  | .lit _ => 1
  | .nil => 1
  | .ptr d => uptoBulk d + 1
  | .slice elems spare => uptoBulkAll elems + uptoBulkAll spare + 1
  | .agg parts => uptoBulkAll parts + 1
  | .iface _ d => uptoBulk d + 1
  | .map entries => uptoBulkEntries entries + 1
  | .held _ => 1
def uptoBulkAll {H : Type} : List (DataW H) → Nat
  | [] => 0
  | d :: r => uptoBulk d + uptoBulkAll r
def uptoBulkEntries {H : Type} : List (Lit × DataW H) → Nat
  | [] => 0
  | x :: r => uptoBulkEntry x + uptoBulkEntries r
def uptoBulkEntry {H : Type} : Lit × DataW H → Nat
  | (.string bytes, d) => bytes.length + uptoBulk d + 1
  | (_, d) => uptoBulk d + 1
 end
def uptoSmall : (H : Type) → List (DataW H) → Bool := fun _ ds => decide (uptoBulkAll ds ≤ 1048576)
def OpenSpec.upto (s : _root_.Go.ChangeSpec) : _root_.Go.OpenSpec := { _root_.Go.OpenSpec.ofChange s with cond := some uptoSmall }

/-- 'preludelaw03.LangVerifies', WHERE WHAT IT READS IS OF BULK AT MOST 1048576: true; the input reads as it did. -/
def langVerifiesUptoRow : OpenClaim := { program := "ytjmlogljfboleaa", sum := "7c07bcf750ad4e8245b4c024dcabb460b2d2ad121a29e76cf2db8f87e119b4e8", func := "prelude/preludelaw03.LangVerifies", spec := "langVerifies", unfollowed := true, recurses := true, apart := false, narrowed := true }
def LangVerifiesUptoSaid : Prop := langVerifiesUptoRow.holds Try.pinned (OpenSpec.upto langVerifiesSpec)

/-- 'preludelaw03.LangPuts', WHERE WHAT IT READS IS OF BULK AT MOST 1048576: true; the input reads as it did. -/
def langPutsUptoRow : OpenClaim := { program := "ytjmlogljfboleaa", sum := "7c07bcf750ad4e8245b4c024dcabb460b2d2ad121a29e76cf2db8f87e119b4e8", func := "prelude/preludelaw03.LangPuts", spec := "langPuts", apart := false, narrowed := true }
def LangPutsUptoSaid : Prop := langPutsUptoRow.holds Try.pinned (OpenSpec.upto langPutsSpec)

/-- 'preludelaw03.LangGets', WHERE WHAT IT READS IS OF BULK AT MOST 1048576: true; the input reads as it did. -/
def langGetsUptoRow : OpenClaim := { program := "ytjmlogljfboleaa", sum := "7c07bcf750ad4e8245b4c024dcabb460b2d2ad121a29e76cf2db8f87e119b4e8", func := "prelude/preludelaw03.LangGets", spec := "langGets", apart := false, narrowed := true }
def LangGetsUptoSaid : Prop := langGetsUptoRow.holds Try.pinned (OpenSpec.upto langGetsSpec)

/-- 'preludelaw03.LangChecks', WHERE WHAT IT READS IS OF BULK AT MOST 1048576: true; the input reads as it did. -/
def langChecksUptoRow : OpenClaim := { program := "ytjmlogljfboleaa", sum := "7c07bcf750ad4e8245b4c024dcabb460b2d2ad121a29e76cf2db8f87e119b4e8", func := "prelude/preludelaw03.LangChecks", spec := "langChecks", apart := false, narrowed := true }
def LangChecksUptoSaid : Prop := langChecksUptoRow.holds Try.pinned (OpenSpec.upto langChecksSpec)

end Rows
end Go.Proofs.Ytjmlogljfboleaa
