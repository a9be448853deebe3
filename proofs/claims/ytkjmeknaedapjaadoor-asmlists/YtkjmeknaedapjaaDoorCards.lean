/-
  DERIVED. GIVEN WITH THE SEED: THE CARDS: each row of YtkjmeknaedapjaaDoorRows.lean that lists a variable, with what it lists TIED to the program's text (the seventh form; the later family's looks); each row that meets fmt, with fmt's text TOLD by the authors' own Lean function (tested against real Go, not proved from fmt's source: count such statements apart). THE CARD IS WHAT COUNTS. Prove the row's statement (the work); the ties are given (YtkjmeknaedapjaaDoorTie.lean); close each card by the builder's one call (the guide's Derived/Test/ToyasCard.lean, 'card_holds'). Laid BY PROGRAM, IN A SANDBOX (cutbox-door.mjs). By AI agents, Wed Nov 11 2026. No macro, syntax, notation, axiom, sorry.
-/
import Derived.Test.YtkjmeknaedapjaaDoorRows
import GoSem.ClaimSeven
namespace Go.Proofs.YtkjmeknaedapjaaDoor
namespace Rows

/-- THE TIED CARD OF 'preludelaw03.LangCodes'. -/
def langCodesCard : Claim7 := { stood := { row := langCodesRow, standIns := [], harness := (true, "2162328b0a76fc8f95b9415705ef289a19802d1dd9b48adf349c466cac11e622"), looks := false }, kinds := [], alts := [], laidByText := true, laidKinds := [.data], laidTests := true, laidLooks := .later }
def LangCodesCardSaid : Prop := Claim7.holds Tryd.pinned (.plain (OpenSpec.ofChange langCodesSpec)) langCodesCard

/-- THE TIED CARD OF 'preludelaw04.AsmLists'. -/
def asmListsCard : Claim7 := { stood := { row := asmListsRow, standIns := [], harness := (true, "2162328b0a76fc8f95b9415705ef289a19802d1dd9b48adf349c466cac11e622"), looks := false }, kinds := [], alts := [], laidByText := true, laidKinds := [.data, .data, .data, .data, .data], laidTests := true, laidLooks := .later }
def AsmListsCardSaid : Prop := Claim7.holds Tryd.pinned (.plain (OpenSpec.ofChange asmListsSpec)) asmListsCard

/-- THE SECOND FORM's CARD OF 'preludelaw03.LangCodes'. -/
def langCodesUptoCard : Claim7 := { stood := { row := langCodesUptoRow, standIns := [], harness := (true, "2162328b0a76fc8f95b9415705ef289a19802d1dd9b48adf349c466cac11e622"), looks := false }, kinds := [], alts := [], laidByText := true, laidKinds := [.data], laidTests := true, laidLooks := .later }
def LangCodesUptoCardSaid : Prop := Claim7.holds Tryd.pinned (.plain (OpenSpec.upto langCodesSpec)) langCodesUptoCard

/-- THE SECOND FORM's CARD OF 'preludelaw04.AsmLists'. -/
def asmListsUptoCard : Claim7 := { stood := { row := asmListsUptoRow, standIns := [], harness := (true, "2162328b0a76fc8f95b9415705ef289a19802d1dd9b48adf349c466cac11e622"), looks := false }, kinds := [], alts := [], laidByText := true, laidKinds := [.data, .data, .data, .data, .data], laidTests := true, laidLooks := .later }
def AsmListsUptoCardSaid : Prop := Claim7.holds Tryd.pinned (.plain (OpenSpec.upto asmListsSpec)) asmListsUptoCard
end Rows
end Go.Proofs.YtkjmeknaedapjaaDoor
