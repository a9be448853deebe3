/-
  DERIVED. GIVEN WITH THE SEED: THE CARDS: each row of YtlabofafmcbfmaaGreatDoorRows.lean that lists a variable, with what it lists TIED to the program's text (the seventh form; the later family's looks); each row that meets fmt, with fmt's text TOLD by the authors' own Lean function (tested against real Go, not proved from fmt's source: count such statements apart). THE CARD IS WHAT COUNTS. Prove the row's statement (the work); the ties are given (YtlabofafmcbfmaaGreatDoorTie.lean); close each card by the builder's one call (the guide's Derived/Test/ToyasCard.lean, 'card_holds'). Laid BY PROGRAM, IN A SANDBOX (cutbox-door.mjs). By AI agents, Wed Nov 11 2026. No macro, syntax, notation, axiom, sorry.
-/
import Derived.Test.YtlabofafmcbfmaaGreatDoorRows
import GoSem.ClaimSeven
namespace Go.Proofs.YtlabofafmcbfmaaGreatDoor
namespace Rows

/-- THE TIED CARD OF 'preludelaw18.SourceTokens'. -/
def sourceTokensCard : Claim7 := { stood := { row := sourceTokensRow, standIns := [], harness := (true, "6d2cc390733a8f834166862c6f30a8e184dfbe4bc98ddff357855f99f9747cca"), looks := true }, kinds := [], alts := [], laidByText := true, laidKinds := [.data, .data, .data, .data, .handle, .sentinel, .sentinel, .data, .pinned], laidTests := true, laidLooks := .later }
def SourceTokensCardSaid : Prop := Claim7.holds Tryz.pinned (.plain (OpenSpec.ofChange sourceTokensSpec)) sourceTokensCard

/-- THE SECOND FORM's CARD OF 'preludelaw18.SourceTokens'. -/
def sourceTokensUptoCard : Claim7 := { stood := { row := sourceTokensUptoRow, standIns := [], harness := (true, "6d2cc390733a8f834166862c6f30a8e184dfbe4bc98ddff357855f99f9747cca"), looks := true }, kinds := [], alts := [], laidByText := true, laidKinds := [.data, .data, .data, .data, .handle, .sentinel, .sentinel, .data, .pinned], laidTests := true, laidLooks := .later }
def SourceTokensUptoCardSaid : Prop := Claim7.holds Tryz.pinned (.plain (OpenSpec.upto sourceTokensSpec)) sourceTokensUptoCard
end Rows
end Go.Proofs.YtlabofafmcbfmaaGreatDoor
