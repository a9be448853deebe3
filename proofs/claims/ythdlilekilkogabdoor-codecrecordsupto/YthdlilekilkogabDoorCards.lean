/-
  DERIVED. GIVEN WITH THE SEED: THE CARDS: each row of YthdlilekilkogabDoorRows.lean that lists a variable, with what it lists TIED to the program's text (the seventh form; the later family's looks); each row that meets fmt, with fmt's text TOLD by the authors' own Lean function (tested against real Go, not proved from fmt's source: count such statements apart). THE CARD IS WHAT COUNTS. Prove the row's statement (the work); the ties are given (YthdlilekilkogabDoorTie.lean); close each card by the builder's one call (the guide's Derived/Test/ToyasCard.lean, 'card_holds'). Laid BY PROGRAM, IN A SANDBOX (cutbox-door.mjs). By AI agents, Wed Nov 11 2026. No macro, syntax, notation, axiom, sorry.
-/
import Derived.Test.YthdlilekilkogabDoorRows
import GoSem.ClaimSeven
namespace Go.Proofs.YthdlilekilkogabDoor
namespace Rows

/-- THE TIED CARD OF 'preludelaw01.CodecBursts'. -/
def codecBurstsCard : Claim7 := { stood := { row := codecBurstsRow, standIns := [], harness := (true, "0e83ddc97e8e2085c2eead8968202f73ad08ee1868552c2918d5904f3501938e"), looks := false }, kinds := [], alts := [], laidByText := true, laidKinds := [.data], laidTests := true, laidLooks := .later }
def CodecBurstsCardSaid : Prop := Claim7.holds Tryd.pinned (.plain (OpenSpec.ofChange codecBurstsSpec)) codecBurstsCard

/-- THE TIED CARD OF 'preludelaw01.CodecRecords'. -/
def codecRecordsCard : Claim7 := { stood := { row := codecRecordsRow, standIns := [], harness := (true, "0e83ddc97e8e2085c2eead8968202f73ad08ee1868552c2918d5904f3501938e"), looks := false }, kinds := [], alts := [], laidByText := true, laidKinds := [.data], laidTests := true, laidLooks := .later }
def CodecRecordsCardSaid : Prop := Claim7.holds Tryd.pinned (.plain (OpenSpec.ofChange codecRecordsSpec)) codecRecordsCard

/-- THE TIED CARD OF 'preludelaw01.CodecFlips'. -/
def codecFlipsCard : Claim7 := { stood := { row := codecFlipsRow, standIns := [], harness := (true, "0e83ddc97e8e2085c2eead8968202f73ad08ee1868552c2918d5904f3501938e"), looks := false }, kinds := [], alts := [], laidByText := true, laidKinds := [.data], laidTests := true, laidLooks := .later }
def CodecFlipsCardSaid : Prop := Claim7.holds Tryd.pinned (.plain (OpenSpec.ofChange codecFlipsSpec)) codecFlipsCard

/-- THE SECOND FORM's CARD OF 'preludelaw01.CodecBursts'. -/
def codecBurstsUptoCard : Claim7 := { stood := { row := codecBurstsUptoRow, standIns := [], harness := (true, "0e83ddc97e8e2085c2eead8968202f73ad08ee1868552c2918d5904f3501938e"), looks := false }, kinds := [], alts := [], laidByText := true, laidKinds := [.data], laidTests := true, laidLooks := .later }
def CodecBurstsUptoCardSaid : Prop := Claim7.holds Tryd.pinned (.plain (OpenSpec.upto codecBurstsSpec)) codecBurstsUptoCard

/-- THE SECOND FORM's CARD OF 'preludelaw01.CodecRecords'. -/
def codecRecordsUptoCard : Claim7 := { stood := { row := codecRecordsUptoRow, standIns := [], harness := (true, "0e83ddc97e8e2085c2eead8968202f73ad08ee1868552c2918d5904f3501938e"), looks := false }, kinds := [], alts := [], laidByText := true, laidKinds := [.data], laidTests := true, laidLooks := .later }
def CodecRecordsUptoCardSaid : Prop := Claim7.holds Tryd.pinned (.plain (OpenSpec.upto codecRecordsSpec)) codecRecordsUptoCard

/-- THE SECOND FORM's CARD OF 'preludelaw01.CodecFlips'. -/
def codecFlipsUptoCard : Claim7 := { stood := { row := codecFlipsUptoRow, standIns := [], harness := (true, "0e83ddc97e8e2085c2eead8968202f73ad08ee1868552c2918d5904f3501938e"), looks := false }, kinds := [], alts := [], laidByText := true, laidKinds := [.data], laidTests := true, laidLooks := .later }
def CodecFlipsUptoCardSaid : Prop := Claim7.holds Tryd.pinned (.plain (OpenSpec.upto codecFlipsSpec)) codecFlipsUptoCard
end Rows
end Go.Proofs.YthdlilekilkogabDoor
