/-
  DERIVED. GIVEN WITH THE SEED: THE CARDS: each row of YtnjgaibcpcpmcacDoorRows.lean that lists a variable, with what it lists TIED to the program's text (the seventh form; the later family's looks); each row that meets fmt, with fmt's text TOLD by the authors' own Lean function (tested against real Go, not proved from fmt's source: count such statements apart). THE CARD IS WHAT COUNTS. Prove the row's statement (the work); the ties are given (YtnjgaibcpcpmcacDoorTie.lean); close each card by the builder's one call (the guide's Derived/Test/ToyasCard.lean, 'card_holds'). Laid BY PROGRAM, IN A SANDBOX (cutbox-door.mjs). By AI agents, Wed Nov 11 2026. No macro, syntax, notation, axiom, sorry.
-/
import Derived.Test.YtnjgaibcpcpmcacDoorRows
import GoSem.ClaimSeven
namespace Go.Proofs.YtnjgaibcpcpmcacDoor
namespace Rows

/-- THE TIED CARD OF 'preludelaw02.KeysSetLaws'. -/
def keysSetLawsCard : Claim7 := { stood := { row := keysSetLawsRow, standIns := [], harness := (true, "e31ad77dc7ccbc4352f1b5fe62f2351953e6691f37fa7901e6b6901f74f2afb4"), looks := false }, kinds := [], alts := [], laidByText := true, laidKinds := [.data, .data, .data], laidTests := true, laidLooks := .later }
def KeysSetLawsCardSaid : Prop := Claim7.holds Tryd.pinned (.plain (OpenSpec.ofChange keysSetLawsSpec)) keysSetLawsCard

/-- THE TIED CARD OF 'preludelaw02.KeysSplitOne'. -/
def keysSplitOneCard : Claim7 := { stood := { row := keysSplitOneRow, standIns := [], harness := (true, "e31ad77dc7ccbc4352f1b5fe62f2351953e6691f37fa7901e6b6901f74f2afb4"), looks := false }, kinds := [], alts := [], laidByText := true, laidKinds := [.data, .data, .data], laidTests := true, laidLooks := .later }
def KeysSplitOneCardSaid : Prop := Claim7.holds Tryd.pinned (.plain (OpenSpec.ofChange keysSplitOneSpec)) keysSplitOneCard

/-- THE SECOND FORM's CARD OF 'preludelaw02.KeysSetLaws'. -/
def keysSetLawsUptoCard : Claim7 := { stood := { row := keysSetLawsUptoRow, standIns := [], harness := (true, "e31ad77dc7ccbc4352f1b5fe62f2351953e6691f37fa7901e6b6901f74f2afb4"), looks := false }, kinds := [], alts := [], laidByText := true, laidKinds := [.data, .data, .data], laidTests := true, laidLooks := .later }
def KeysSetLawsUptoCardSaid : Prop := Claim7.holds Tryd.pinned (.plain (OpenSpec.upto keysSetLawsSpec)) keysSetLawsUptoCard

/-- THE SECOND FORM's CARD OF 'preludelaw02.KeysSplitOne'. -/
def keysSplitOneUptoCard : Claim7 := { stood := { row := keysSplitOneUptoRow, standIns := [], harness := (true, "e31ad77dc7ccbc4352f1b5fe62f2351953e6691f37fa7901e6b6901f74f2afb4"), looks := false }, kinds := [], alts := [], laidByText := true, laidKinds := [.data, .data, .data], laidTests := true, laidLooks := .later }
def KeysSplitOneUptoCardSaid : Prop := Claim7.holds Tryd.pinned (.plain (OpenSpec.upto keysSplitOneSpec)) keysSplitOneUptoCard
end Rows
end Go.Proofs.YtnjgaibcpcpmcacDoor
