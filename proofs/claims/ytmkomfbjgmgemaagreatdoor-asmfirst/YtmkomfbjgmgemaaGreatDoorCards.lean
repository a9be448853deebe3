/-
  DERIVED. GIVEN WITH THE SEED: THE CARDS: each row of YtmkomfbjgmgemaaGreatDoorRows.lean that lists a variable, with what it lists TIED to the program's text (the seventh form; the later family's looks); each row that meets fmt, with fmt's text TOLD by the authors' own Lean function (tested against real Go, not proved from fmt's source: count such statements apart). THE CARD IS WHAT COUNTS. Prove the row's statement (the work); the ties are given (YtmkomfbjgmgemaaGreatDoorTie.lean); close each card by the builder's one call (the guide's Derived/Test/ToyasCard.lean, 'card_holds'). Laid BY PROGRAM, IN A SANDBOX (cutbox-door.mjs). By AI agents, Wed Nov 11 2026. No macro, syntax, notation, axiom, sorry.
-/
import Derived.Test.YtmkomfbjgmgemaaGreatDoorRows
import GoSem.ClaimSeven
namespace Go.Proofs.YtmkomfbjgmgemaaGreatDoor
namespace Rows

/-- THE TIED CARD OF 'preludelaw04.AsmFirst'. -/
def asmFirstCard : Claim7 := { stood := { row := asmFirstRow, standIns := [], harness := (true, "8cb37ed0bf1005952ab2869d4818f33d0a0372cd1b1ae960fcbd6c0a9742eb35"), looks := true }, kinds := [], alts := [], laidByText := true, laidKinds := [.data, .data, .data, .handle, .sentinel, .sentinel, .data, .data], laidTests := true, laidLooks := .later }
def AsmFirstCardSaid : Prop := Claim7.holds Tryz.pinned (.plain (OpenSpec.ofChange asmFirstSpec)) asmFirstCard

/-- THE TIED CARD OF 'preludelaw04.AsmNumbers'. -/
def asmNumbersCard : Claim7 := { stood := { row := asmNumbersRow, standIns := [], harness := (true, "8cb37ed0bf1005952ab2869d4818f33d0a0372cd1b1ae960fcbd6c0a9742eb35"), looks := true }, kinds := [], alts := [], laidByText := true, laidKinds := [.data, .data, .data, .handle, .sentinel, .sentinel, .data, .data], laidTests := true, laidLooks := .later }
def AsmNumbersCardSaid : Prop := Claim7.holds Tryz.pinned (.plain (OpenSpec.ofChange asmNumbersSpec)) asmNumbersCard

/-- THE SECOND FORM's CARD OF 'preludelaw04.AsmFirst'. -/
def asmFirstUptoCard : Claim7 := { stood := { row := asmFirstUptoRow, standIns := [], harness := (true, "8cb37ed0bf1005952ab2869d4818f33d0a0372cd1b1ae960fcbd6c0a9742eb35"), looks := true }, kinds := [], alts := [], laidByText := true, laidKinds := [.data, .data, .data, .handle, .sentinel, .sentinel, .data, .data], laidTests := true, laidLooks := .later }
def AsmFirstUptoCardSaid : Prop := Claim7.holds Tryz.pinned (.plain (OpenSpec.upto asmFirstSpec)) asmFirstUptoCard

/-- THE SECOND FORM's CARD OF 'preludelaw04.AsmNumbers'. -/
def asmNumbersUptoCard : Claim7 := { stood := { row := asmNumbersUptoRow, standIns := [], harness := (true, "8cb37ed0bf1005952ab2869d4818f33d0a0372cd1b1ae960fcbd6c0a9742eb35"), looks := true }, kinds := [], alts := [], laidByText := true, laidKinds := [.data, .data, .data, .handle, .sentinel, .sentinel, .data, .data], laidTests := true, laidLooks := .later }
def AsmNumbersUptoCardSaid : Prop := Claim7.holds Tryz.pinned (.plain (OpenSpec.upto asmNumbersSpec)) asmNumbersUptoCard
end Rows
end Go.Proofs.YtmkomfbjgmgemaaGreatDoor
