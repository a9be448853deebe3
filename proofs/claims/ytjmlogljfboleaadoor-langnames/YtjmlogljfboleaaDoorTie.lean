/-
  DERIVED. GIVEN WITH THE SEED: THE PROGRAM's TIES (one call each: nine closed facts by the kernel) AND EACH ROW's TIE, after the 31st guide's Derived/Test/Toyas{Tie, Card}.lean. No idea stands in it: it is a product of the set-up. Laid BY PROGRAM, IN A SANDBOX (cutbox-door.mjs). By AI agents, Wed Nov 11 2026. No macro, syntax, notation, axiom, sorry.
-/
import Derived.Test.YtjmlogljfboleaaDoorRows
import Derived.LaidByTextLater
import Derived.SevenTiedAt
import Derived.LaidSub
import Derived.LaidOnce
namespace Go.Proofs.YtjmlogljfboleaaDoor
open Go
set_option maxRecDepth 100000
theorem seatTie1 : Tryd.prog.laidByTextLater [("prelude/codec.halfRemainders", Rows.laid_prelude_codec_halfRemainders), ("prelude/lang.names", Rows.laid_prelude_lang_names)] [.data, .data] true :=
  Program.laidByTextLater_by_one 19 8 38 (by kernel_rfl) (by kernel_rfl) (by kernel_rfl) (by kernel_rfl) (by kernel_rfl) (by kernel_rfl) (fun _ _ => by kernel_rfl)
theorem noOwnUnsafe : Tryd.pinned.checked.prog.headLifts.contains "ownunsafe" = false := by kernel_rfl
theorem tie : Tryd.prog.laidByTextLater [("prelude/lang.names", Rows.laid_prelude_lang_names)] [.data] true :=
  Program.laidByTextLater.sub seatTie1 ["prelude/lang.names"] (by kernel_rfl) (by kernel_rfl)
theorem langNames_row_tie : Rows.langNamesRow.laidByTextAt .later Tryd.pinned [.data] true :=
  OpenClaim.laidByTextAt_later rfl rfl tie noOwnUnsafe
theorem tie2 : Tryd.prog.laidByTextLater [("prelude/codec.halfRemainders", Rows.laid_prelude_codec_halfRemainders)] [.data] true :=
  Program.laidByTextLater.sub seatTie1 ["prelude/codec.halfRemainders"] (by kernel_rfl) (by kernel_rfl)
theorem langCodes_row_tie : Rows.langCodesRow.laidByTextAt .later Tryd.pinned [.data] true :=
  OpenClaim.laidByTextAt_later rfl rfl tie2 noOwnUnsafe
theorem langNamesUpto_row_tie : Rows.langNamesUptoRow.laidByTextAt .later Tryd.pinned [.data] true :=
  OpenClaim.laidByTextAt_later rfl rfl tie noOwnUnsafe
theorem langCodesUpto_row_tie : Rows.langCodesUptoRow.laidByTextAt .later Tryd.pinned [.data] true :=
  OpenClaim.laidByTextAt_later rfl rfl tie2 noOwnUnsafe
end Go.Proofs.YtjmlogljfboleaaDoor
