/-
  DERIVED. GIVEN WITH THE SEED: THE CARDS: each row of YtnjjjkhhoaadfaaGreatDoorRows.lean that lists a variable, with what it lists TIED to the program's text (the seventh form; the later family's looks); each row that meets fmt, with fmt's text TOLD by the authors' own Lean function (tested against real Go, not proved from fmt's source: count such statements apart). THE CARD IS WHAT COUNTS. Prove the row's statement (the work); the ties are given (YtnjjjkhhoaadfaaGreatDoorTie.lean); close each card by the builder's one call (the guide's Derived/Test/ToyasCard.lean, 'card_holds'). Laid BY PROGRAM, IN A SANDBOX (cutbox-door.mjs). By AI agents, Wed Nov 11 2026. No macro, syntax, notation, axiom, sorry.
-/
import Derived.Test.YtnjjjkhhoaadfaaGreatDoorRows
import GoSem.ClaimSeven
namespace Go.Proofs.YtnjjjkhhoaadfaaGreatDoor
namespace Rows

/-- THE TIED CARD OF 'binderylaw.TextPacks'. -/
def textPacksCard : Claim7 := { stood := { row := textPacksRow, standIns := [], harness := (true, "fd6b68289a0cbb37a8b3366f31f352967aa947f6ae5b7cd9bf515646feb52647"), looks := true }, kinds := [], alts := [], laidByText := true, laidKinds := [.data, .handle, .pinned, .pinned], laidTests := true, laidLooks := .later }
def TextPacksCardSaid : Prop := Claim7.holds Tryz.pinned (.plain (OpenSpec.ofChange textPacksSpec)) textPacksCard

/-- THE TIED CARD OF 'binderylaw.PartReads'. -/
def partReadsCard : Claim7 := { stood := { row := partReadsRow, standIns := [], harness := (true, "fd6b68289a0cbb37a8b3366f31f352967aa947f6ae5b7cd9bf515646feb52647"), looks := true }, kinds := [], alts := [], laidByText := true, laidKinds := [.data, .handle, .data, .pinned, .pinned], laidTests := true, laidLooks := .later }
def PartReadsCardSaid : Prop := Claim7.holds Tryz.pinned (.plain (OpenSpec.ofChange partReadsSpec)) partReadsCard

/-- THE TIED CARD OF 'binderylaw.PartWrites'. -/
def partWritesCard : Claim7 := { stood := { row := partWritesRow, standIns := [], harness := (true, "fd6b68289a0cbb37a8b3366f31f352967aa947f6ae5b7cd9bf515646feb52647"), looks := true }, kinds := [], alts := [], laidByText := true, laidKinds := [.data, .data, .data, .data, .handle, .data, .pinned], laidTests := true, laidLooks := .later }
def PartWritesCardSaid : Prop := Claim7.holds Tryz.pinned (.plain (OpenSpec.ofChange partWritesSpec)) partWritesCard

/-- THE SECOND FORM's CARD OF 'binderylaw.TextPacks'. -/
def textPacksUptoCard : Claim7 := { stood := { row := textPacksUptoRow, standIns := [], harness := (true, "fd6b68289a0cbb37a8b3366f31f352967aa947f6ae5b7cd9bf515646feb52647"), looks := true }, kinds := [], alts := [], laidByText := true, laidKinds := [.data, .handle, .pinned, .pinned], laidTests := true, laidLooks := .later }
def TextPacksUptoCardSaid : Prop := Claim7.holds Tryz.pinned (.plain (OpenSpec.upto textPacksSpec)) textPacksUptoCard

/-- THE SECOND FORM's CARD OF 'binderylaw.PartReads'. -/
def partReadsUptoCard : Claim7 := { stood := { row := partReadsUptoRow, standIns := [], harness := (true, "fd6b68289a0cbb37a8b3366f31f352967aa947f6ae5b7cd9bf515646feb52647"), looks := true }, kinds := [], alts := [], laidByText := true, laidKinds := [.data, .handle, .data, .pinned, .pinned], laidTests := true, laidLooks := .later }
def PartReadsUptoCardSaid : Prop := Claim7.holds Tryz.pinned (.plain (OpenSpec.upto partReadsSpec)) partReadsUptoCard

/-- THE SECOND FORM's CARD OF 'binderylaw.PartWrites'. -/
def partWritesUptoCard : Claim7 := { stood := { row := partWritesUptoRow, standIns := [], harness := (true, "fd6b68289a0cbb37a8b3366f31f352967aa947f6ae5b7cd9bf515646feb52647"), looks := true }, kinds := [], alts := [], laidByText := true, laidKinds := [.data, .data, .data, .data, .handle, .data, .pinned], laidTests := true, laidLooks := .later }
def PartWritesUptoCardSaid : Prop := Claim7.holds Tryz.pinned (.plain (OpenSpec.upto partWritesSpec)) partWritesUptoCard
end Rows
end Go.Proofs.YtnjjjkhhoaadfaaGreatDoor
