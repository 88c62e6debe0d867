/-
  DERIVED. GIVEN WITH THE SEED: THE CARDS: each row of YtpdfghmfhljfiaaDoorRows.lean that lists a variable, with what it lists TIED to the program's text (the seventh form; the later family's looks); each row that meets fmt, with fmt's text TOLD by the authors' own Lean function (tested against real Go, not proved from fmt's source: count such statements apart). THE CARD IS WHAT COUNTS. Prove the row's statement (the work); the ties are given (YtpdfghmfhljfiaaDoorTie.lean); close each card by the builder's one call (the guide's Derived/Test/ToyasCard.lean, 'card_holds'). Laid BY PROGRAM, IN A SANDBOX (cutbox-door.mjs). By AI agents, Wed Nov 11 2026. No macro, syntax, notation, axiom, sorry.
-/
import Derived.Test.YtpdfghmfhljfiaaDoorRows
import GoSem.ClaimSeven
namespace Go.Proofs.YtpdfghmfhljfiaaDoor
namespace Rows

/-- THE TIED CARD OF 'binderykeep.TextBack'. -/
def textBackCard : Claim7 := { stood := { row := textBackRow, standIns := [], harness := (true, "f43d1adb5631d0eb74f9783426a8e42a297d7bc4037890b4f6a5b42a90c3ed85"), looks := true }, kinds := [], alts := [], laidByText := true, laidKinds := [.data, .pinned], laidTests := true, laidLooks := .later }
def TextBackCardSaid : Prop := Claim7.holds Tryd.pinned (.plain (OpenSpec.ofChange textBackSpec)) textBackCard

/-- THE TIED CARD OF 'binderylaw.HeadReads'. -/
def headReadsCard : Claim7 := { stood := { row := headReadsRow, standIns := [], harness := (true, "f43d1adb5631d0eb74f9783426a8e42a297d7bc4037890b4f6a5b42a90c3ed85"), looks := true }, kinds := [], alts := [], laidByText := true, laidKinds := [.data, .handle, .pinned], laidTests := true, laidLooks := .later }
def HeadReadsCardSaid : Prop := Claim7.holds Tryd.pinned (.plain (OpenSpec.ofChange headReadsSpec)) headReadsCard

/-- THE TIED CARD OF 'binderylaw.HeadWrites'. -/
def headWritesCard : Claim7 := { stood := { row := headWritesRow, standIns := [], harness := (true, "f43d1adb5631d0eb74f9783426a8e42a297d7bc4037890b4f6a5b42a90c3ed85"), looks := true }, kinds := [], alts := [], laidByText := true, laidKinds := [.handle], laidTests := true, laidLooks := .later }
def HeadWritesCardSaid : Prop := Claim7.holds Tryd.pinned (.plain (OpenSpec.ofChange headWritesSpec)) headWritesCard

/-- THE TIED CARD OF 'binderykeep.HeadBack'. -/
def headBackCard : Claim7 := { stood := { row := headBackRow, standIns := [], harness := (true, "f43d1adb5631d0eb74f9783426a8e42a297d7bc4037890b4f6a5b42a90c3ed85"), looks := true }, kinds := [], alts := [], laidByText := true, laidKinds := [.data, .pinned], laidTests := true, laidLooks := .later }
def HeadBackCardSaid : Prop := Claim7.holds Tryd.pinned (.plain (OpenSpec.ofChange headBackSpec)) headBackCard

/-- THE TIED CARD OF 'binderylaw.KindReads'. -/
def kindReadsCard : Claim7 := { stood := { row := kindReadsRow, standIns := [], harness := (true, "f43d1adb5631d0eb74f9783426a8e42a297d7bc4037890b4f6a5b42a90c3ed85"), looks := true }, kinds := [], alts := [], laidByText := true, laidKinds := [.data, .handle, .pinned], laidTests := true, laidLooks := .later }
def KindReadsCardSaid : Prop := Claim7.holds Tryd.pinned (.plain (OpenSpec.ofChange kindReadsSpec)) kindReadsCard

/-- THE TIED CARD OF 'binderylaw.KindWrites'. -/
def kindWritesCard : Claim7 := { stood := { row := kindWritesRow, standIns := [], harness := (true, "f43d1adb5631d0eb74f9783426a8e42a297d7bc4037890b4f6a5b42a90c3ed85"), looks := true }, kinds := [], alts := [], laidByText := true, laidKinds := [.data, .handle, .pinned], laidTests := true, laidLooks := .later }
def KindWritesCardSaid : Prop := Claim7.holds Tryd.pinned (.plain (OpenSpec.ofChange kindWritesSpec)) kindWritesCard

/-- THE TIED CARD OF 'binderykeep.KindBack'. -/
def kindBackCard : Claim7 := { stood := { row := kindBackRow, standIns := [], harness := (true, "f43d1adb5631d0eb74f9783426a8e42a297d7bc4037890b4f6a5b42a90c3ed85"), looks := true }, kinds := [], alts := [], laidByText := true, laidKinds := [.data, .pinned], laidTests := true, laidLooks := .later }
def KindBackCardSaid : Prop := Claim7.holds Tryd.pinned (.plain (OpenSpec.ofChange kindBackSpec)) kindBackCard

/-- THE TIED CARD OF 'binderylaw.AddressResolves'. -/
def addressResolvesCard : Claim7 := { stood := { row := addressResolvesRow, standIns := [], harness := (true, "f43d1adb5631d0eb74f9783426a8e42a297d7bc4037890b4f6a5b42a90c3ed85"), looks := true }, kinds := [], alts := [], laidByText := true, laidKinds := [.data, .handle, .pinned], laidTests := true, laidLooks := .later }
def AddressResolvesCardSaid : Prop := Claim7.holds Tryd.pinned (.plain (OpenSpec.ofChange addressResolvesSpec)) addressResolvesCard

/-- THE TIED CARD OF 'binderykeep.AddressLeads'. -/
def addressLeadsCard : Claim7 := { stood := { row := addressLeadsRow, standIns := [], harness := (true, "f43d1adb5631d0eb74f9783426a8e42a297d7bc4037890b4f6a5b42a90c3ed85"), looks := true }, kinds := [], alts := [], laidByText := true, laidKinds := [.data, .pinned], laidTests := true, laidLooks := .later }
def AddressLeadsCardSaid : Prop := Claim7.holds Tryd.pinned (.plain (OpenSpec.ofChange addressLeadsSpec)) addressLeadsCard

/-- THE SECOND FORM's CARD OF 'binderykeep.TextBack'. -/
def textBackUptoCard : Claim7 := { stood := { row := textBackUptoRow, standIns := [], harness := (true, "f43d1adb5631d0eb74f9783426a8e42a297d7bc4037890b4f6a5b42a90c3ed85"), looks := true }, kinds := [], alts := [], laidByText := true, laidKinds := [.data, .pinned], laidTests := true, laidLooks := .later }
def TextBackUptoCardSaid : Prop := Claim7.holds Tryd.pinned (.plain (OpenSpec.upto textBackSpec)) textBackUptoCard

/-- THE SECOND FORM's CARD OF 'binderylaw.HeadReads'. -/
def headReadsUptoCard : Claim7 := { stood := { row := headReadsUptoRow, standIns := [], harness := (true, "f43d1adb5631d0eb74f9783426a8e42a297d7bc4037890b4f6a5b42a90c3ed85"), looks := true }, kinds := [], alts := [], laidByText := true, laidKinds := [.data, .handle, .pinned], laidTests := true, laidLooks := .later }
def HeadReadsUptoCardSaid : Prop := Claim7.holds Tryd.pinned (.plain (OpenSpec.upto headReadsSpec)) headReadsUptoCard

/-- THE SECOND FORM's CARD OF 'binderylaw.HeadWrites'. -/
def headWritesUptoCard : Claim7 := { stood := { row := headWritesUptoRow, standIns := [], harness := (true, "f43d1adb5631d0eb74f9783426a8e42a297d7bc4037890b4f6a5b42a90c3ed85"), looks := true }, kinds := [], alts := [], laidByText := true, laidKinds := [.handle], laidTests := true, laidLooks := .later }
def HeadWritesUptoCardSaid : Prop := Claim7.holds Tryd.pinned (.plain (OpenSpec.upto headWritesSpec)) headWritesUptoCard

/-- THE SECOND FORM's CARD OF 'binderykeep.HeadBack'. -/
def headBackUptoCard : Claim7 := { stood := { row := headBackUptoRow, standIns := [], harness := (true, "f43d1adb5631d0eb74f9783426a8e42a297d7bc4037890b4f6a5b42a90c3ed85"), looks := true }, kinds := [], alts := [], laidByText := true, laidKinds := [.data, .pinned], laidTests := true, laidLooks := .later }
def HeadBackUptoCardSaid : Prop := Claim7.holds Tryd.pinned (.plain (OpenSpec.upto headBackSpec)) headBackUptoCard

/-- THE SECOND FORM's CARD OF 'binderylaw.KindReads'. -/
def kindReadsUptoCard : Claim7 := { stood := { row := kindReadsUptoRow, standIns := [], harness := (true, "f43d1adb5631d0eb74f9783426a8e42a297d7bc4037890b4f6a5b42a90c3ed85"), looks := true }, kinds := [], alts := [], laidByText := true, laidKinds := [.data, .handle, .pinned], laidTests := true, laidLooks := .later }
def KindReadsUptoCardSaid : Prop := Claim7.holds Tryd.pinned (.plain (OpenSpec.upto kindReadsSpec)) kindReadsUptoCard

/-- THE SECOND FORM's CARD OF 'binderylaw.KindWrites'. -/
def kindWritesUptoCard : Claim7 := { stood := { row := kindWritesUptoRow, standIns := [], harness := (true, "f43d1adb5631d0eb74f9783426a8e42a297d7bc4037890b4f6a5b42a90c3ed85"), looks := true }, kinds := [], alts := [], laidByText := true, laidKinds := [.data, .handle, .pinned], laidTests := true, laidLooks := .later }
def KindWritesUptoCardSaid : Prop := Claim7.holds Tryd.pinned (.plain (OpenSpec.upto kindWritesSpec)) kindWritesUptoCard

/-- THE SECOND FORM's CARD OF 'binderykeep.KindBack'. -/
def kindBackUptoCard : Claim7 := { stood := { row := kindBackUptoRow, standIns := [], harness := (true, "f43d1adb5631d0eb74f9783426a8e42a297d7bc4037890b4f6a5b42a90c3ed85"), looks := true }, kinds := [], alts := [], laidByText := true, laidKinds := [.data, .pinned], laidTests := true, laidLooks := .later }
def KindBackUptoCardSaid : Prop := Claim7.holds Tryd.pinned (.plain (OpenSpec.upto kindBackSpec)) kindBackUptoCard

/-- THE SECOND FORM's CARD OF 'binderylaw.AddressResolves'. -/
def addressResolvesUptoCard : Claim7 := { stood := { row := addressResolvesUptoRow, standIns := [], harness := (true, "f43d1adb5631d0eb74f9783426a8e42a297d7bc4037890b4f6a5b42a90c3ed85"), looks := true }, kinds := [], alts := [], laidByText := true, laidKinds := [.data, .handle, .pinned], laidTests := true, laidLooks := .later }
def AddressResolvesUptoCardSaid : Prop := Claim7.holds Tryd.pinned (.plain (OpenSpec.upto addressResolvesSpec)) addressResolvesUptoCard

/-- THE SECOND FORM's CARD OF 'binderykeep.AddressLeads'. -/
def addressLeadsUptoCard : Claim7 := { stood := { row := addressLeadsUptoRow, standIns := [], harness := (true, "f43d1adb5631d0eb74f9783426a8e42a297d7bc4037890b4f6a5b42a90c3ed85"), looks := true }, kinds := [], alts := [], laidByText := true, laidKinds := [.data, .pinned], laidTests := true, laidLooks := .later }
def AddressLeadsUptoCardSaid : Prop := Claim7.holds Tryd.pinned (.plain (OpenSpec.upto addressLeadsSpec)) addressLeadsUptoCard
end Rows
end Go.Proofs.YtpdfghmfhljfiaaDoor
