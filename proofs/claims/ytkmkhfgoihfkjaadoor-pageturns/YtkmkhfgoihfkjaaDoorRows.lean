/-
  NARROWER THAN 'FOR EVERY INPUT', by the rows' own cells (each row's printed sentence says how): PageTurns: laid.
  DERIVED. THE GIVEN ROWS OF THIS SEAT. 1 by the template 'for every input the law returns true; each argument reads behind the call as it read before'; 0 by the template 'total and deterministic' (their statements: YtkmkhfgoihfkjaaDoorTotals.lean).
  GIVEN WITH THE SEED: the statements are not yours to turn. If you find one false, say at which input.
  Laid BY PROGRAM, IN A SANDBOX (cutbox-rows.mjs): the forced cells as the released guide's own fill.sh prints them over the translation 87a68bed1207df9e… (all of the seat's roots in one cut). By AI agents, Wed Nov 11 2026. No macro, syntax, notation, axiom, sorry.
-/
import Derived.Test.YtkmkhfgoihfkjaaDoorChecked
import GoSem.Claim
import GoSem.ClaimJoined
import GoSem.ClaimMapViews
import Derived.JoinedTies
import Derived.KernelRfl
namespace Go.Proofs.YtkmkhfgoihfkjaaDoor
/- THE CELL 'sum', in the pinned program and in every row, IS THE sha256 OF THE DUMP (.gsa) THAT YtkmkhfgoihfkjaaDoorProg.lean LOADS. Nothing in Lean hashes anything: it is a label: what it is worth is what the hold of that sum in a sandbox is worth. -/
noncomputable def Tryd.pinned : Pinned := { name := "ytkmkhfgoihfkjaadoor", sum := "87a68bed1207df9e96dbb25d274b53a8261d55cd6098fc2ffaa01b1336a70b7d", checked := Tryd.checked }
namespace Rows
def none {H : Type} : Left H := { results := [], args := [] }

/- WHAT THE LISTED PACKAGE-LEVEL VARIABLES READ AS WHEN THE CALL BEGINS. Each datum BY PROGRAM (the guide's laid-datum.mjs) off the statement by which the dump's own 'gosem.cut.vars' lays the variable. In a bare row this is a premise. The card (YtkmkhfgoihfkjaaDoorCards.lean) ties it to the program's text. -/
def laid_bindery_page_leading {H : Type} : DataW H := .agg [.lit (.string [98, 97, 99, 107, 103, 114, 111, 117, 110, 100]), .lit (.string [104, 114, 101, 102]), .lit (.string [115, 114, 99])]
def laid_bindery_page_verbatim {H : Type} : DataW H := .agg [.lit (.string [115, 99, 114, 105, 112, 116]), .lit (.string [115, 116, 121, 108, 101]), .lit (.string [116, 101, 120, 116, 97, 114, 101, 97]), .lit (.string [116, 105, 116, 108, 101])]
def laid_bindery_page_words {H : Type} : DataW H := .agg [.agg [.lit (.int .u8 38), .lit (.string [38, 97, 109, 112, 59])], .agg [.lit (.int .u8 34), .lit (.string [38, 113, 117, 111, 116, 59])], .agg [.lit (.int .u8 39), .lit (.string [38, 35, 51, 57, 59])], .agg [.lit (.int .u8 60), .lit (.string [38, 108, 116, 59])], .agg [.lit (.int .u8 62), .lit (.string [38, 103, 116, 59])]]

/-- 'binderykeep.PageTurns': WHATEVER THE INPUT: true; the input reads as it did. -/
def pageTurnsSpec : ChangeSpec := { name := "pageTurns", fn := fun _ => fun
  | [d1, d2] => { results := [.lit (.bool true)], args := [d1, d2] }
  | _ => none }
def pageTurnsRow : OpenClaim := { program := "ytkmkhfgoihfkjaadoor", sum := "87a68bed1207df9e96dbb25d274b53a8261d55cd6098fc2ffaa01b1336a70b7d", func := "bindery/binderykeep.PageTurns", spec := "pageTurns", inPlace := ["internal/bytealg.IndexByteString", "internal/bytealg.IndexString", "internal/abi.NoEscape"], unfollowed := true, recurses := true, named := ["internal/bytealg.MaxLen", "bindery/page.words", "bindery/page.leading", "bindery/page.verbatim"], apart := false, laid := [("bindery/page.leading", laid_bindery_page_leading), ("bindery/page.verbatim", laid_bindery_page_verbatim), ("bindery/page.words", laid_bindery_page_words)] }
def PageTurnsSaid : Prop := pageTurnsRow.holds Tryd.pinned (OpenSpec.ofChange pageTurnsSpec)

/-- ITS FALSE NEIGHBOUR: 'it returns false'. Refute it at one input. -/
def pageTurnsWrong : ChangeSpec := { name := "pageTurns", fn := fun _ => fun
  | [d1, d2] => { results := [.lit (.bool false)], args := [d1, d2] }
  | _ => none }
def PageTurnsWrongFalsely : Prop := pageTurnsRow.holds Tryd.pinned (OpenSpec.ofChange pageTurnsWrong)

/- THE SECOND FORM. 'bulk': how many values and letters a reading holds, each counted each time it is reached (what is shared counts as often as it is met; a slice's spare places count too). A statement '..UptoSaid' is the law's where the arguments, and the package variables that the reading takes, are together of bulk at most 1048576: NARROWER than '..Said'. Prove '..Said' where nothing that the law and all that it calls make is longer than what came in: it says more and counts as full. Else prove '..UptoSaid'. A law counts once. -/
mutual
def uptoBulk {H : Type} : DataW H → Nat
  | .lit (.string bytes) => bytes.length + 1
  | .lit _ => 1
  | .nil => 1
  | .ptr d => uptoBulk d + 1
  | .slice elems spare => uptoBulkAll elems + uptoBulkAll spare + 1
  | .agg parts => uptoBulkAll parts + 1
  | .iface _ d => uptoBulk d + 1
  | .map entries => uptoBulkEntries entries + 1
  | .held _ => 1
def uptoBulkAll {H : Type} : List (DataW H) → Nat
  | [] => 0
  | d :: r => uptoBulk d + uptoBulkAll r
def uptoBulkEntries {H : Type} : List (Lit × DataW H) → Nat
  | [] => 0
  | x :: r => uptoBulkEntry x + uptoBulkEntries r
def uptoBulkEntry {H : Type} : Lit × DataW H → Nat
  | (.string bytes, d) => bytes.length + uptoBulk d + 1
  | (_, d) => uptoBulk d + 1
 end
def uptoSmall : (H : Type) → List (DataW H) → Bool := fun _ ds => decide (uptoBulkAll ds ≤ 1048576)
def OpenSpec.upto (s : _root_.Go.ChangeSpec) : _root_.Go.OpenSpec := { _root_.Go.OpenSpec.ofChange s with cond := some uptoSmall }

/-- 'binderykeep.PageTurns', WHERE WHAT IT READS IS OF BULK AT MOST 1048576: true; the input reads as it did. -/
def pageTurnsUptoRow : OpenClaim := { program := "ytkmkhfgoihfkjaadoor", sum := "87a68bed1207df9e96dbb25d274b53a8261d55cd6098fc2ffaa01b1336a70b7d", func := "bindery/binderykeep.PageTurns", spec := "pageTurns", inPlace := ["internal/bytealg.IndexByteString", "internal/bytealg.IndexString", "internal/abi.NoEscape"], unfollowed := true, recurses := true, named := ["internal/bytealg.MaxLen", "bindery/page.words", "bindery/page.leading", "bindery/page.verbatim"], apart := false, laid := [("bindery/page.leading", laid_bindery_page_leading), ("bindery/page.verbatim", laid_bindery_page_verbatim), ("bindery/page.words", laid_bindery_page_words)], narrowed := true }
def PageTurnsUptoSaid : Prop := pageTurnsUptoRow.holds Tryd.pinned (OpenSpec.upto pageTurnsSpec)

end Rows
end Go.Proofs.YtkmkhfgoihfkjaaDoor
