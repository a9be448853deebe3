/-
  DERIVED. GIVEN WITH THE SEED: THE CARDS: each row of YtjmlogljfboleaaDoorRows.lean that lists a variable, with what it lists TIED to the program's text (the seventh form; the later family's looks); each row that meets fmt, with fmt's text TOLD by the authors' own Lean function (tested against real Go, not proved from fmt's source: count such statements apart). THE CARD IS WHAT COUNTS. Prove the row's statement (the work); the ties are given (YtjmlogljfboleaaDoorTie.lean); close each card by the builder's one call (the guide's Derived/Test/ToyasCard.lean, 'card_holds'). Laid BY PROGRAM, IN A SANDBOX (cutbox-door.mjs). By AI agents, Wed Nov 11 2026. No macro, syntax, notation, axiom, sorry.
-/
import Derived.Test.YtjmlogljfboleaaDoorRows
import GoSem.ClaimSeven
namespace Go.Proofs.YtjmlogljfboleaaDoor
namespace Rows

/-- THE TIED CARD OF 'preludelaw03.LangNames'. -/
def langNamesCard : Claim7 := { stood := { row := langNamesRow, standIns := [], harness := (true, "8af21c8c480735f8af7f1c4bf96389f5dfba5b91a6cbea6be048e7bfea6b07c2"), looks := false }, kinds := [], alts := [], laidByText := true, laidKinds := [.data], laidTests := true, laidLooks := .later }
def LangNamesCardSaid : Prop := Claim7.holds Tryd.pinned (.plain (OpenSpec.ofChange langNamesSpec)) langNamesCard

/-- THE TIED CARD OF 'preludelaw03.LangCodes'. -/
def langCodesCard : Claim7 := { stood := { row := langCodesRow, standIns := [], harness := (true, "8af21c8c480735f8af7f1c4bf96389f5dfba5b91a6cbea6be048e7bfea6b07c2"), looks := false }, kinds := [], alts := [], laidByText := true, laidKinds := [.data], laidTests := true, laidLooks := .later }
def LangCodesCardSaid : Prop := Claim7.holds Tryd.pinned (.plain (OpenSpec.ofChange langCodesSpec)) langCodesCard

/-- THE SECOND FORM's CARD OF 'preludelaw03.LangNames'. -/
def langNamesUptoCard : Claim7 := { stood := { row := langNamesUptoRow, standIns := [], harness := (true, "8af21c8c480735f8af7f1c4bf96389f5dfba5b91a6cbea6be048e7bfea6b07c2"), looks := false }, kinds := [], alts := [], laidByText := true, laidKinds := [.data], laidTests := true, laidLooks := .later }
def LangNamesUptoCardSaid : Prop := Claim7.holds Tryd.pinned (.plain (OpenSpec.upto langNamesSpec)) langNamesUptoCard

/-- THE SECOND FORM's CARD OF 'preludelaw03.LangCodes'. -/
def langCodesUptoCard : Claim7 := { stood := { row := langCodesUptoRow, standIns := [], harness := (true, "8af21c8c480735f8af7f1c4bf96389f5dfba5b91a6cbea6be048e7bfea6b07c2"), looks := false }, kinds := [], alts := [], laidByText := true, laidKinds := [.data], laidTests := true, laidLooks := .later }
def LangCodesUptoCardSaid : Prop := Claim7.holds Tryd.pinned (.plain (OpenSpec.upto langCodesSpec)) langCodesUptoCard
end Rows
end Go.Proofs.YtjmlogljfboleaaDoor
