/-
  NARROWER THAN 'FOR EVERY INPUT', by the rows' own cells (each row's printed sentence says how): XcharCuts: laid · XcharParts: laid · XcharTrims: laid · XcharLines: laid.
  DERIVED. THE GIVEN ROWS OF THIS SEAT. 4 by the template 'for every input the law returns true; each argument reads behind the call as it read before'; 0 by the template 'total and deterministic' (their statements: YtapehgheaododabDoorTotals.lean).
  GIVEN WITH THE SEED: the statements are not yours to turn. If you find one false, say at which input.
  Laid BY PROGRAM, IN A SANDBOX (cutbox-rows.mjs): the forced cells as the released guide's own fill.sh prints them over the translation ff78c3676bf147fe… (all of the seat's roots in one cut). By AI agents, Wed Nov 11 2026. No macro, syntax, notation, axiom, sorry.
-/
import Derived.Test.YtapehgheaododabDoorChecked
import GoSem.PinnedTables
import GoSem.Claim
import GoSem.ClaimJoined
import GoSem.ClaimMapViews
import Derived.JoinedTies
import Derived.KernelRfl
namespace Go.Proofs.YtapehgheaododabDoor
/- THE CELL 'sum', in the pinned program and in every row, IS THE sha256 OF THE DUMP (.gsa) THAT YtapehgheaododabDoorProg.lean LOADS. Nothing in Lean hashes anything: it is a label: what it is worth is what the hold of that sum in a sandbox is worth. -/
noncomputable def Tryd.pinned : Pinned := { name := "ytapehgheaododabdoor", sum := "ff78c3676bf147feac226dbdf9099a34b1ebc892a6452c0ecb8d3fae7a5f10d3", checked := Tryd.checked }
namespace Rows
def none {H : Type} : Left H := { results := [], args := [] }

/- WHAT THE LISTED PACKAGE-LEVEL VARIABLES READ AS WHEN THE CALL BEGINS. Each datum BY PROGRAM (the guide's laid-datum.mjs) off the statement by which the dump's own 'gosem.cut.vars' lays the variable. In a bare row this is a premise. The card (YtapehgheaododabDoorCards.lean) ties it to the program's text. -/
def laid_unicode_utf8_acceptRanges {H : Type} : DataW H := .agg [.agg [.lit (.int .u8 128), .lit (.int .u8 191)], .agg [.lit (.int .u8 160), .lit (.int .u8 191)], .agg [.lit (.int .u8 128), .lit (.int .u8 159)], .agg [.lit (.int .u8 144), .lit (.int .u8 191)], .agg [.lit (.int .u8 128), .lit (.int .u8 143)], .agg [.lit (.int .u8 0), .lit (.int .u8 0)], .agg [.lit (.int .u8 0), .lit (.int .u8 0)], .agg [.lit (.int .u8 0), .lit (.int .u8 0)], .agg [.lit (.int .u8 0), .lit (.int .u8 0)], .agg [.lit (.int .u8 0), .lit (.int .u8 0)], .agg [.lit (.int .u8 0), .lit (.int .u8 0)], .agg [.lit (.int .u8 0), .lit (.int .u8 0)], .agg [.lit (.int .u8 0), .lit (.int .u8 0)], .agg [.lit (.int .u8 0), .lit (.int .u8 0)], .agg [.lit (.int .u8 0), .lit (.int .u8 0)], .agg [.lit (.int .u8 0), .lit (.int .u8 0)]]
/-- One of Go's own tables, pinned by name: the form's constant. -/
def laid_unicode_utf8_first : DataW Unit := Go.Pinned.utf8First

/-- 'stencillaw01.XcharCuts': WHATEVER THE INPUT: true; the input reads as it did. -/
def xcharCutsSpec : ChangeSpec := { name := "xcharCuts", fn := fun _ => fun
  | [d1, d2, d3] => { results := [.lit (.bool true)], args := [d1, d2, d3] }
  | _ => none }
def xcharCutsRow : OpenClaim := { program := "ytapehgheaododabdoor", sum := "ff78c3676bf147feac226dbdf9099a34b1ebc892a6452c0ecb8d3fae7a5f10d3", func := "stencil/stencillaw01.XcharCuts", spec := "xcharCuts", inPlace := ["internal/bytealg.CountString", "internal/bytealg.IndexByteString", "internal/bytealg.IndexString", "internal/abi.NoEscape", "internal/bytealg.MakeNoZero"], unfollowed := true, recurses := true, named := ["internal/bytealg.MaxLen", "unicode/utf8.first", "unicode/utf8.acceptRanges"], apart := false, laid := [("unicode/utf8.acceptRanges", laid_unicode_utf8_acceptRanges), ("unicode/utf8.first", laid_unicode_utf8_first)] }
def XcharCutsSaid : Prop := xcharCutsRow.holds Tryd.pinned (OpenSpec.ofChange xcharCutsSpec)

/-- ITS FALSE NEIGHBOUR: 'it returns false'. Refute it at one input. -/
def xcharCutsWrong : ChangeSpec := { name := "xcharCuts", fn := fun _ => fun
  | [d1, d2, d3] => { results := [.lit (.bool false)], args := [d1, d2, d3] }
  | _ => none }
def XcharCutsWrongFalsely : Prop := xcharCutsRow.holds Tryd.pinned (OpenSpec.ofChange xcharCutsWrong)

/-- 'stencillaw01.XcharParts': WHATEVER THE INPUT: true; the input reads as it did. -/
def xcharPartsSpec : ChangeSpec := { name := "xcharParts", fn := fun _ => fun
  | [d1, d2] => { results := [.lit (.bool true)], args := [d1, d2] }
  | _ => none }
def xcharPartsRow : OpenClaim := { program := "ytapehgheaododabdoor", sum := "ff78c3676bf147feac226dbdf9099a34b1ebc892a6452c0ecb8d3fae7a5f10d3", func := "stencil/stencillaw01.XcharParts", spec := "xcharParts", inPlace := ["internal/bytealg.CountString", "internal/bytealg.IndexByteString", "internal/bytealg.IndexString", "internal/abi.NoEscape", "internal/bytealg.MakeNoZero"], unfollowed := true, recurses := true, named := ["internal/bytealg.MaxLen", "unicode/utf8.first", "unicode/utf8.acceptRanges"], apart := false, laid := [("unicode/utf8.acceptRanges", laid_unicode_utf8_acceptRanges), ("unicode/utf8.first", laid_unicode_utf8_first)] }
def XcharPartsSaid : Prop := xcharPartsRow.holds Tryd.pinned (OpenSpec.ofChange xcharPartsSpec)

/-- ITS FALSE NEIGHBOUR: 'it returns false'. Refute it at one input. -/
def xcharPartsWrong : ChangeSpec := { name := "xcharParts", fn := fun _ => fun
  | [d1, d2] => { results := [.lit (.bool false)], args := [d1, d2] }
  | _ => none }
def XcharPartsWrongFalsely : Prop := xcharPartsRow.holds Tryd.pinned (OpenSpec.ofChange xcharPartsWrong)

/-- 'stencillaw01.XcharTrims': WHATEVER THE INPUT: true; the input reads as it did. -/
def xcharTrimsSpec : ChangeSpec := { name := "xcharTrims", fn := fun _ => fun
  | [d] => { results := [.lit (.bool true)], args := [d] }
  | _ => none }
def xcharTrimsRow : OpenClaim := { program := "ytapehgheaododabdoor", sum := "ff78c3676bf147feac226dbdf9099a34b1ebc892a6452c0ecb8d3fae7a5f10d3", func := "stencil/stencillaw01.XcharTrims", spec := "xcharTrims", inPlace := ["internal/abi.NoEscape", "internal/bytealg.MakeNoZero", "internal/bytealg.CountString", "internal/bytealg.IndexByteString", "internal/bytealg.IndexString"], unfollowed := true, recurses := true, named := ["internal/bytealg.MaxLen", "unicode/utf8.first", "unicode/utf8.acceptRanges"], apart := false, laid := [("unicode/utf8.acceptRanges", laid_unicode_utf8_acceptRanges), ("unicode/utf8.first", laid_unicode_utf8_first)] }
def XcharTrimsSaid : Prop := xcharTrimsRow.holds Tryd.pinned (OpenSpec.ofChange xcharTrimsSpec)

/-- ITS FALSE NEIGHBOUR: 'it returns false'. Refute it at one input. -/
def xcharTrimsWrong : ChangeSpec := { name := "xcharTrims", fn := fun _ => fun
  | [d] => { results := [.lit (.bool false)], args := [d] }
  | _ => none }
def XcharTrimsWrongFalsely : Prop := xcharTrimsRow.holds Tryd.pinned (OpenSpec.ofChange xcharTrimsWrong)

/-- 'stencillaw01.XcharLines': WHATEVER THE INPUT: true; the input reads as it did. -/
def xcharLinesSpec : ChangeSpec := { name := "xcharLines", fn := fun _ => fun
  | [d] => { results := [.lit (.bool true)], args := [d] }
  | _ => none }
def xcharLinesRow : OpenClaim := { program := "ytapehgheaododabdoor", sum := "ff78c3676bf147feac226dbdf9099a34b1ebc892a6452c0ecb8d3fae7a5f10d3", func := "stencil/stencillaw01.XcharLines", spec := "xcharLines", inPlace := ["internal/bytealg.CountString", "internal/bytealg.IndexByteString", "internal/bytealg.IndexString", "internal/abi.NoEscape", "internal/bytealg.MakeNoZero"], unfollowed := true, recurses := true, named := ["internal/bytealg.MaxLen", "unicode/utf8.first", "unicode/utf8.acceptRanges"], apart := false, laid := [("unicode/utf8.acceptRanges", laid_unicode_utf8_acceptRanges), ("unicode/utf8.first", laid_unicode_utf8_first)] }
def XcharLinesSaid : Prop := xcharLinesRow.holds Tryd.pinned (OpenSpec.ofChange xcharLinesSpec)

/-- ITS FALSE NEIGHBOUR: 'it returns false'. Refute it at one input. -/
def xcharLinesWrong : ChangeSpec := { name := "xcharLines", fn := fun _ => fun
  | [d] => { results := [.lit (.bool false)], args := [d] }
  | _ => none }
def XcharLinesWrongFalsely : Prop := xcharLinesRow.holds Tryd.pinned (OpenSpec.ofChange xcharLinesWrong)

/- THE SECOND FORM. 'bulk': how many values and letters a reading holds, each counted each time it is reached (what is shared counts as often as it is met; a slice's spare places count too). A statement '..UptoSaid' is the law's where the arguments, and the package variables that the reading takes, are together of bulk at most 1048576: NARROWER than '..Said'. Prove '..Said' where nothing that the law and all that it calls make is longer than what came in: it says more and counts as full. Else prove '..UptoSaid'. A law counts once. -/
mutual
def uptoBulk {H : Type} : DataW H → Nat
  | .lit (.string bytes) => bytes.length + 1
  | .lit _ => 1
  | .nil => 1
  | .ptr d => uptoBulk d + 1
  | .slice elems spare => uptoBulkAll elems + uptoBulkAll spare + 1
  | .agg parts => uptoBulkAll parts + 1
  | .iface _ d => uptoBulk d + 1
  | .map entries => uptoBulkEntries entries + 1
  | .held _ => 1
def uptoBulkAll {H : Type} : List (DataW H) → Nat
  | [] => 0
  | d :: r => uptoBulk d + uptoBulkAll r
def uptoBulkEntries {H : Type} : List (Lit × DataW H) → Nat
  | [] => 0
  | x :: r => uptoBulkEntry x + uptoBulkEntries r
def uptoBulkEntry {H : Type} : Lit × DataW H → Nat
  | (.string bytes, d) => bytes.length + uptoBulk d + 1
  | (_, d) => uptoBulk d + 1
 end
def uptoSmall : (H : Type) → List (DataW H) → Bool := fun _ ds => decide (uptoBulkAll ds ≤ 1048576)
def OpenSpec.upto (s : _root_.Go.ChangeSpec) : _root_.Go.OpenSpec := { _root_.Go.OpenSpec.ofChange s with cond := some uptoSmall }

/-- 'stencillaw01.XcharCuts', WHERE WHAT IT READS IS OF BULK AT MOST 1048576: true; the input reads as it did. -/
def xcharCutsUptoRow : OpenClaim := { program := "ytapehgheaododabdoor", sum := "ff78c3676bf147feac226dbdf9099a34b1ebc892a6452c0ecb8d3fae7a5f10d3", func := "stencil/stencillaw01.XcharCuts", spec := "xcharCuts", inPlace := ["internal/bytealg.CountString", "internal/bytealg.IndexByteString", "internal/bytealg.IndexString", "internal/abi.NoEscape", "internal/bytealg.MakeNoZero"], unfollowed := true, recurses := true, named := ["internal/bytealg.MaxLen", "unicode/utf8.first", "unicode/utf8.acceptRanges"], apart := false, laid := [("unicode/utf8.acceptRanges", laid_unicode_utf8_acceptRanges), ("unicode/utf8.first", laid_unicode_utf8_first)], narrowed := true }
def XcharCutsUptoSaid : Prop := xcharCutsUptoRow.holds Tryd.pinned (OpenSpec.upto xcharCutsSpec)

/-- 'stencillaw01.XcharParts', WHERE WHAT IT READS IS OF BULK AT MOST 1048576: true; the input reads as it did. -/
def xcharPartsUptoRow : OpenClaim := { program := "ytapehgheaododabdoor", sum := "ff78c3676bf147feac226dbdf9099a34b1ebc892a6452c0ecb8d3fae7a5f10d3", func := "stencil/stencillaw01.XcharParts", spec := "xcharParts", inPlace := ["internal/bytealg.CountString", "internal/bytealg.IndexByteString", "internal/bytealg.IndexString", "internal/abi.NoEscape", "internal/bytealg.MakeNoZero"], unfollowed := true, recurses := true, named := ["internal/bytealg.MaxLen", "unicode/utf8.first", "unicode/utf8.acceptRanges"], apart := false, laid := [("unicode/utf8.acceptRanges", laid_unicode_utf8_acceptRanges), ("unicode/utf8.first", laid_unicode_utf8_first)], narrowed := true }
def XcharPartsUptoSaid : Prop := xcharPartsUptoRow.holds Tryd.pinned (OpenSpec.upto xcharPartsSpec)

/-- 'stencillaw01.XcharTrims', WHERE WHAT IT READS IS OF BULK AT MOST 1048576: true; the input reads as it did. -/
def xcharTrimsUptoRow : OpenClaim := { program := "ytapehgheaododabdoor", sum := "ff78c3676bf147feac226dbdf9099a34b1ebc892a6452c0ecb8d3fae7a5f10d3", func := "stencil/stencillaw01.XcharTrims", spec := "xcharTrims", inPlace := ["internal/abi.NoEscape", "internal/bytealg.MakeNoZero", "internal/bytealg.CountString", "internal/bytealg.IndexByteString", "internal/bytealg.IndexString"], unfollowed := true, recurses := true, named := ["internal/bytealg.MaxLen", "unicode/utf8.first", "unicode/utf8.acceptRanges"], apart := false, laid := [("unicode/utf8.acceptRanges", laid_unicode_utf8_acceptRanges), ("unicode/utf8.first", laid_unicode_utf8_first)], narrowed := true }
def XcharTrimsUptoSaid : Prop := xcharTrimsUptoRow.holds Tryd.pinned (OpenSpec.upto xcharTrimsSpec)

/-- 'stencillaw01.XcharLines', WHERE WHAT IT READS IS OF BULK AT MOST 1048576: true; the input reads as it did. -/
def xcharLinesUptoRow : OpenClaim := { program := "ytapehgheaododabdoor", sum := "ff78c3676bf147feac226dbdf9099a34b1ebc892a6452c0ecb8d3fae7a5f10d3", func := "stencil/stencillaw01.XcharLines", spec := "xcharLines", inPlace := ["internal/bytealg.CountString", "internal/bytealg.IndexByteString", "internal/bytealg.IndexString", "internal/abi.NoEscape", "internal/bytealg.MakeNoZero"], unfollowed := true, recurses := true, named := ["internal/bytealg.MaxLen", "unicode/utf8.first", "unicode/utf8.acceptRanges"], apart := false, laid := [("unicode/utf8.acceptRanges", laid_unicode_utf8_acceptRanges), ("unicode/utf8.first", laid_unicode_utf8_first)], narrowed := true }
def XcharLinesUptoSaid : Prop := xcharLinesUptoRow.holds Tryd.pinned (OpenSpec.upto xcharLinesSpec)

end Rows
end Go.Proofs.YtapehgheaododabDoor
