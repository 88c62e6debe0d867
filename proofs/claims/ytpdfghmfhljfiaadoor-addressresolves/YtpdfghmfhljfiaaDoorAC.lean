import Derived.Test.YtpdfghmfhljfiaaDoorAB
namespace Go.Proofs.YtpdfghmfhljfiaaDoor
open Go.RowKit

/- What the document's words make of an address that was read. -/
theorem read_good {s : ByteArray} {v : AV} (h : readA s.data.toList = some v.ab) : writeA v.ab = s.data.toList ∧ Fit0 v.ab := read_write _ _ h
theorem read_back {s : ByteArray} {v : AV} (h : readA s.data.toList = some v.ab) : readA (writeA v.ab) = some v.ab := by rw [(read_good h).1]; exact h

/-- The facts of a Go text, at texts that are written out. -/
theorem led_read1 : readA [104, 116, 116, 112, 58, 47, 47, 97, 47, 98, 47, 99, 47, 100, 63, 113, 35, 102] = some (AV.ab ⟨⟨#[104, 116, 116, 112]⟩, true, ⟨#[97]⟩, ⟨#[47, 98, 47, 99, 47, 100]⟩, true, ⟨#[113]⟩, true, ⟨#[102]⟩⟩) := by rfl
theorem led_read2 : readA [46, 46, 47, 103] = some (AV.ab ⟨⟨#[]⟩, false, ⟨#[]⟩, ⟨#[46, 46, 47, 103]⟩, false, ⟨#[]⟩, false, ⟨#[]⟩⟩) := by rfl
theorem led_res : writeB (resV ⟨⟨#[104, 116, 116, 112]⟩, true, ⟨#[97]⟩, ⟨#[47, 98, 47, 99, 47, 100]⟩, true, ⟨#[113]⟩, true, ⟨#[102]⟩⟩ ⟨⟨#[]⟩, false, ⟨#[]⟩, ⟨#[46, 46, 47, 103]⟩, false, ⟨#[]⟩, false, ⟨#[]⟩⟩) = ⟨#[104, 116, 116, 112, 58, 47, 47, 97, 47, 98, 47, 103]⟩ := by rfl
theorem led_dots : dotsS [47, 97, 47, 46, 47, 98, 47, 46, 46, 47, 99] = [47, 97, 47, 99] := by rfl

end Go.Proofs.YtpdfghmfhljfiaaDoor
