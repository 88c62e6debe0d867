/-
  DERIVED. GIVEN WITH THE SEED: THE CARDS: each row of YtkgpmahlkglaaaaGreatDoorRows.lean that lists a variable, with what it lists TIED to the program's text (the seventh form; the later family's looks); each row that meets fmt, with fmt's text TOLD by the authors' own Lean function (tested against real Go, not proved from fmt's source: count such statements apart). THE CARD IS WHAT COUNTS. Prove the row's statement (the work); the ties are given (YtkgpmahlkglaaaaGreatDoorTie.lean); close each card by the builder's one call (the guide's Derived/Test/ToyasCard.lean, 'card_holds'). Laid BY PROGRAM, IN A SANDBOX (cutbox-door.mjs). By AI agents, Wed Nov 11 2026. No macro, syntax, notation, axiom, sorry.
-/
import Derived.Test.YtkgpmahlkglaaaaGreatDoorRows
import GoSem.ClaimSeven
namespace Go.Proofs.YtkgpmahlkglaaaaGreatDoor
namespace Rows

/-- THE TIED CARD OF 'binderylaw.TextPacks'. -/
def textPacksCard : Claim7 := { stood := { row := textPacksRow, standIns := [], harness := (true, "e235474e6346558ff3c42983a584e982b2086a7cb206226dbdc47ad1ed3e141b"), looks := true }, kinds := [], alts := [], laidByText := true, laidKinds := [.data, .handle, .pinned, .pinned], laidTests := true, laidLooks := .later }
def TextPacksCardSaid : Prop := Claim7.holds Tryz.pinned (.plain (OpenSpec.ofChange textPacksSpec)) textPacksCard

/-- THE SECOND FORM's CARD OF 'binderylaw.TextPacks'. -/
def textPacksUptoCard : Claim7 := { stood := { row := textPacksUptoRow, standIns := [], harness := (true, "e235474e6346558ff3c42983a584e982b2086a7cb206226dbdc47ad1ed3e141b"), looks := true }, kinds := [], alts := [], laidByText := true, laidKinds := [.data, .handle, .pinned, .pinned], laidTests := true, laidLooks := .later }
def TextPacksUptoCardSaid : Prop := Claim7.holds Tryz.pinned (.plain (OpenSpec.upto textPacksSpec)) textPacksUptoCard
end Rows
end Go.Proofs.YtkgpmahlkglaaaaGreatDoor
