/-
  DERIVED. GIVEN WITH THE SEED: THE CARDS: each row of YtknhacbfddggpaaGreatDoorRows.lean that lists a variable, with what it lists TIED to the program's text (the seventh form; the later family's looks); each row that meets fmt, with fmt's text TOLD by the authors' own Lean function (tested against real Go, not proved from fmt's source: count such statements apart). THE CARD IS WHAT COUNTS. Prove the row's statement (the work); the ties are given (YtknhacbfddggpaaGreatDoorTie.lean); close each card by the builder's one call (the guide's Derived/Test/ToyasCard.lean, 'card_holds'). Laid BY PROGRAM, IN A SANDBOX (cutbox-door.mjs). By AI agents, Wed Nov 11 2026. No macro, syntax, notation, axiom, sorry.
-/
import Derived.Test.YtknhacbfddggpaaGreatDoorRows
import GoSem.ClaimSeven
namespace Go.Proofs.YtknhacbfddggpaaGreatDoor
namespace Rows

/-- THE TIED CARD OF 'binderykeep.BundleBinds'. -/
def bundleBindsCard : Claim7 := { stood := { row := bundleBindsRow, standIns := [], harness := (true, "e60b1755a1be10c1494c65fe6bc28fbb85e854239db2c604979e9bfbc8251659"), looks := true }, kinds := [], alts := [], laidByText := true, laidKinds := [.data, .data, .data, .data, .handle, .data, .data, .data, .data, .pinned], laidTests := true, laidLooks := .later }
def BundleBindsCardSaid : Prop := Claim7.holds Tryz.pinned (.plain (OpenSpec.ofChange bundleBindsSpec)) bundleBindsCard

/-- THE SECOND FORM's CARD OF 'binderykeep.BundleBinds'. -/
def bundleBindsUptoCard : Claim7 := { stood := { row := bundleBindsUptoRow, standIns := [], harness := (true, "e60b1755a1be10c1494c65fe6bc28fbb85e854239db2c604979e9bfbc8251659"), looks := true }, kinds := [], alts := [], laidByText := true, laidKinds := [.data, .data, .data, .data, .handle, .data, .data, .data, .data, .pinned], laidTests := true, laidLooks := .later }
def BundleBindsUptoCardSaid : Prop := Claim7.holds Tryz.pinned (.plain (OpenSpec.upto bundleBindsSpec)) bundleBindsUptoCard
end Rows
end Go.Proofs.YtknhacbfddggpaaGreatDoor
