/-
  DERIVED. GIVEN WITH THE SEED: THE PROGRAM's TIES (one call each: nine closed facts by the kernel) AND EACH ROW's TIE, after the 31st guide's Derived/Test/Toyas{Tie, Card}.lean. No idea stands in it: it is a product of the set-up. Laid BY PROGRAM, IN A SANDBOX (cutbox-door.mjs). By AI agents, Wed Nov 11 2026. No macro, syntax, notation, axiom, sorry.
-/
import Derived.Test.YtkmkhfgoihfkjaaDoorRows
import Derived.LaidByTextLater
import Derived.SevenTiedAt
import Derived.LaidSub
import Derived.LaidOnce
namespace Go.Proofs.YtkmkhfgoihfkjaaDoor
open Go
set_option maxRecDepth 100000
theorem seatTie1 : Tryd.prog.laidByTextLater [("bindery/page.leading", Rows.laid_bindery_page_leading), ("bindery/page.verbatim", Rows.laid_bindery_page_verbatim), ("bindery/page.words", Rows.laid_bindery_page_words)] [.data, .data, .data] true :=
  Program.laidByTextLater_by_one 29 8 11 (by kernel_rfl) (by kernel_rfl) (by kernel_rfl) (by kernel_rfl) (by kernel_rfl) (by kernel_rfl) (fun _ _ => by kernel_rfl)
theorem noOwnUnsafe : Tryd.pinned.checked.prog.headLifts.contains "ownunsafe" = false := by kernel_rfl
theorem tie : Tryd.prog.laidByTextLater [("bindery/page.leading", Rows.laid_bindery_page_leading), ("bindery/page.verbatim", Rows.laid_bindery_page_verbatim), ("bindery/page.words", Rows.laid_bindery_page_words)] [.data, .data, .data] true :=
  Program.laidByTextLater.sub seatTie1 ["bindery/page.leading", "bindery/page.verbatim", "bindery/page.words"] (by kernel_rfl) (by kernel_rfl)
theorem pageTurns_row_tie : Rows.pageTurnsRow.laidByTextAt .later Tryd.pinned [.data, .data, .data] true :=
  OpenClaim.laidByTextAt_later rfl rfl tie noOwnUnsafe
theorem pageTurnsUpto_row_tie : Rows.pageTurnsUptoRow.laidByTextAt .later Tryd.pinned [.data, .data, .data] true :=
  OpenClaim.laidByTextAt_later rfl rfl tie noOwnUnsafe
end Go.Proofs.YtkmkhfgoihfkjaaDoor
