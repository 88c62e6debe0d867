/-
  DERIVED. GIVEN WITH THE SEED: THE CARDS: each row of YtkmkhfgoihfkjaaDoorRows.lean that lists a variable, with what it lists TIED to the program's text (the seventh form; the later family's looks); each row that meets fmt, with fmt's text TOLD by the authors' own Lean function (tested against real Go, not proved from fmt's source: count such statements apart). THE CARD IS WHAT COUNTS. Prove the row's statement (the work); the ties are given (YtkmkhfgoihfkjaaDoorTie.lean); close each card by the builder's one call (the guide's Derived/Test/ToyasCard.lean, 'card_holds'). Laid BY PROGRAM, IN A SANDBOX (cutbox-door.mjs). By AI agents, Wed Nov 11 2026. No macro, syntax, notation, axiom, sorry.
-/
import Derived.Test.YtkmkhfgoihfkjaaDoorRows
import GoSem.ClaimSeven
namespace Go.Proofs.YtkmkhfgoihfkjaaDoor
namespace Rows

/-- THE TIED CARD OF 'binderykeep.PageTurns'. -/
def pageTurnsCard : Claim7 := { stood := { row := pageTurnsRow, standIns := [], harness := (true, "5d570249bc61fd5e47dd5f08d4b2a29aff730be02cbf46c54324d88087611f53"), looks := false }, kinds := [], alts := [], laidByText := true, laidKinds := [.data, .data, .data], laidTests := true, laidLooks := .later }
def PageTurnsCardSaid : Prop := Claim7.holds Tryd.pinned (.plain (OpenSpec.ofChange pageTurnsSpec)) pageTurnsCard

/-- THE SECOND FORM's CARD OF 'binderykeep.PageTurns'. -/
def pageTurnsUptoCard : Claim7 := { stood := { row := pageTurnsUptoRow, standIns := [], harness := (true, "5d570249bc61fd5e47dd5f08d4b2a29aff730be02cbf46c54324d88087611f53"), looks := false }, kinds := [], alts := [], laidByText := true, laidKinds := [.data, .data, .data], laidTests := true, laidLooks := .later }
def PageTurnsUptoCardSaid : Prop := Claim7.holds Tryd.pinned (.plain (OpenSpec.upto pageTurnsSpec)) pageTurnsUptoCard
end Rows
end Go.Proofs.YtkmkhfgoihfkjaaDoor
