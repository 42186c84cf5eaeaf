/-
  NARROWER THAN 'FOR EVERY INPUT', by the rows' own cells (each row's printed sentence says how): XplexJoins: laid · XplexBack: laid · XplexBlanks: laid · XplexLiterals: laid · XplexNames: laid · XplexPlaces: laid.
  DERIVED. THE GIVEN ROWS OF THIS SEAT. 6 by the template 'for every input the law returns true; each argument reads behind the call as it read before'; 0 by the template 'total and deterministic' (their statements: YtgabgeadeeaihaaDoorTotals.lean).
  GIVEN WITH THE SEED: the statements are not yours to turn. If you find one false, say at which input.
  Laid BY PROGRAM, IN A SANDBOX (cutbox-rows.mjs): the forced cells as the released guide's own fill.sh prints them over the translation 1b8d83bbde7e4412… (all of the seat's roots in one cut). By AI agents, Wed Nov 11 2026. No macro, syntax, notation, axiom, sorry.
-/
import Derived.Test.YtgabgeadeeaihaaDoorChecked
import GoSem.PinnedTables
import GoSem.Claim
import GoSem.ClaimJoined
import GoSem.ClaimMapViews
import Derived.JoinedTies
import Derived.KernelRfl
namespace Go.Proofs.YtgabgeadeeaihaaDoor
/- THE CELL 'sum', in the pinned program and in every row, IS THE sha256 OF THE DUMP (.gsa) THAT YtgabgeadeeaihaaDoorProg.lean LOADS. Nothing in Lean hashes anything: it is a label: what it is worth is what the hold of that sum in a sandbox is worth. -/
noncomputable def Tryd.pinned : Pinned := { name := "ytgabgeadeeaihaadoor", sum := "1b8d83bbde7e4412ceb600a4f1171aca12b27a2d2ca11c884f2ac8e577729ce8", checked := Tryd.checked }
namespace Rows
def none {H : Type} : Left H := { results := [], args := [] }

/- WHAT THE LISTED PACKAGE-LEVEL VARIABLES READ AS WHEN THE CALL BEGINS. Each datum BY PROGRAM (the guide's laid-datum.mjs) off the statement by which the dump's own 'gosem.cut.vars' lays the variable. In a bare row this is a premise. The card (YtgabgeadeeaihaaDoorCards.lean) ties it to the program's text. -/
def laid_unicode_utf8_acceptRanges {H : Type} : DataW H := .agg [.agg [.lit (.int .u8 128), .lit (.int .u8 191)], .agg [.lit (.int .u8 160), .lit (.int .u8 191)], .agg [.lit (.int .u8 128), .lit (.int .u8 159)], .agg [.lit (.int .u8 144), .lit (.int .u8 191)], .agg [.lit (.int .u8 128), .lit (.int .u8 143)], .agg [.lit (.int .u8 0), .lit (.int .u8 0)], .agg [.lit (.int .u8 0), .lit (.int .u8 0)], .agg [.lit (.int .u8 0), .lit (.int .u8 0)], .agg [.lit (.int .u8 0), .lit (.int .u8 0)], .agg [.lit (.int .u8 0), .lit (.int .u8 0)], .agg [.lit (.int .u8 0), .lit (.int .u8 0)], .agg [.lit (.int .u8 0), .lit (.int .u8 0)], .agg [.lit (.int .u8 0), .lit (.int .u8 0)], .agg [.lit (.int .u8 0), .lit (.int .u8 0)], .agg [.lit (.int .u8 0), .lit (.int .u8 0)], .agg [.lit (.int .u8 0), .lit (.int .u8 0)]]
def laid_stencil_xplex_signs {H : Type} : DataW H := .agg [.agg [.lit (.int .i64 8), .lit (.string [47, 47]), .lit (.int .i64 0)], .agg [.lit (.int .i64 8), .lit (.string [33, 61]), .lit (.int .i64 0)], .agg [.lit (.int .i64 8), .lit (.string [60, 61]), .lit (.int .i64 0)], .agg [.lit (.int .i64 8), .lit (.string [62, 61]), .lit (.int .i64 0)], .agg [.lit (.int .i64 9), .lit (.string [58, 58]), .lit (.int .i64 0)], .agg [.lit (.int .i64 9), .lit (.string [46, 46]), .lit (.int .i64 0)], .agg [.lit (.int .i64 8), .lit (.string [47]), .lit (.int .i64 0)], .agg [.lit (.int .i64 8), .lit (.string [124]), .lit (.int .i64 0)], .agg [.lit (.int .i64 8), .lit (.string [43]), .lit (.int .i64 0)], .agg [.lit (.int .i64 8), .lit (.string [45]), .lit (.int .i64 0)], .agg [.lit (.int .i64 8), .lit (.string [61]), .lit (.int .i64 0)], .agg [.lit (.int .i64 8), .lit (.string [60]), .lit (.int .i64 0)], .agg [.lit (.int .i64 8), .lit (.string [62]), .lit (.int .i64 0)], .agg [.lit (.int .i64 9), .lit (.string [40]), .lit (.int .i64 0)], .agg [.lit (.int .i64 9), .lit (.string [41]), .lit (.int .i64 0)], .agg [.lit (.int .i64 9), .lit (.string [91]), .lit (.int .i64 0)], .agg [.lit (.int .i64 9), .lit (.string [93]), .lit (.int .i64 0)], .agg [.lit (.int .i64 9), .lit (.string [46]), .lit (.int .i64 0)], .agg [.lit (.int .i64 9), .lit (.string [64]), .lit (.int .i64 0)], .agg [.lit (.int .i64 9), .lit (.string [44]), .lit (.int .i64 0)]]
/-- One of Go's own tables, pinned by name: the form's constant. -/
def laid_unicode_utf8_first : DataW Unit := Go.Pinned.utf8First

/-- 'stencillaw05.XplexJoins': WHATEVER THE INPUT: true; the input reads as it did. -/
def xplexJoinsSpec : ChangeSpec := { name := "xplexJoins", fn := fun _ => fun
  | [d1, d2] => { results := [.lit (.bool true)], args := [d1, d2] }
  | _ => none }
def xplexJoinsRow : OpenClaim := { program := "ytgabgeadeeaihaadoor", sum := "1b8d83bbde7e4412ceb600a4f1171aca12b27a2d2ca11c884f2ac8e577729ce8", func := "stencil/stencillaw05.XplexJoins", spec := "xplexJoins", inPlace := ["internal/bytealg.IndexByteString", "internal/bytealg.IndexString", "internal/abi.NoEscape", "internal/bytealg.MakeNoZero"], unfollowed := true, recurses := true, named := ["internal/bytealg.MaxLen", "stencil/xplex.signs", "unicode/utf8.first", "unicode/utf8.acceptRanges"], apart := false, laid := [("unicode/utf8.acceptRanges", laid_unicode_utf8_acceptRanges), ("stencil/xplex.signs", laid_stencil_xplex_signs), ("unicode/utf8.first", laid_unicode_utf8_first)] }
def XplexJoinsSaid : Prop := xplexJoinsRow.holds Tryd.pinned (OpenSpec.ofChange xplexJoinsSpec)

/-- ITS FALSE NEIGHBOUR: 'it returns false'. Refute it at one input. -/
def xplexJoinsWrong : ChangeSpec := { name := "xplexJoins", fn := fun _ => fun
  | [d1, d2] => { results := [.lit (.bool false)], args := [d1, d2] }
  | _ => none }
def XplexJoinsWrongFalsely : Prop := xplexJoinsRow.holds Tryd.pinned (OpenSpec.ofChange xplexJoinsWrong)

/-- 'stencillaw05.XplexBack': WHATEVER THE INPUT: true; the input reads as it did. -/
def xplexBackSpec : ChangeSpec := { name := "xplexBack", fn := fun _ => fun
  | [d] => { results := [.lit (.bool true)], args := [d] }
  | _ => none }
def xplexBackRow : OpenClaim := { program := "ytgabgeadeeaihaadoor", sum := "1b8d83bbde7e4412ceb600a4f1171aca12b27a2d2ca11c884f2ac8e577729ce8", func := "stencil/stencillaw05.XplexBack", spec := "xplexBack", inPlace := ["internal/bytealg.IndexByteString", "internal/bytealg.IndexString", "internal/abi.NoEscape", "internal/bytealg.MakeNoZero"], unfollowed := true, recurses := true, named := ["stencil/xplex.signs", "internal/bytealg.MaxLen", "unicode/utf8.first", "unicode/utf8.acceptRanges"], apart := false, laid := [("unicode/utf8.acceptRanges", laid_unicode_utf8_acceptRanges), ("stencil/xplex.signs", laid_stencil_xplex_signs), ("unicode/utf8.first", laid_unicode_utf8_first)] }
def XplexBackSaid : Prop := xplexBackRow.holds Tryd.pinned (OpenSpec.ofChange xplexBackSpec)

/-- ITS FALSE NEIGHBOUR: 'it returns false'. Refute it at one input. -/
def xplexBackWrong : ChangeSpec := { name := "xplexBack", fn := fun _ => fun
  | [d] => { results := [.lit (.bool false)], args := [d] }
  | _ => none }
def XplexBackWrongFalsely : Prop := xplexBackRow.holds Tryd.pinned (OpenSpec.ofChange xplexBackWrong)

/-- 'stencillaw05.XplexBlanks': WHATEVER THE INPUT: true; the input reads as it did. -/
def xplexBlanksSpec : ChangeSpec := { name := "xplexBlanks", fn := fun _ => fun
  | [d1, d2] => { results := [.lit (.bool true)], args := [d1, d2] }
  | _ => none }
def xplexBlanksRow : OpenClaim := { program := "ytgabgeadeeaihaadoor", sum := "1b8d83bbde7e4412ceb600a4f1171aca12b27a2d2ca11c884f2ac8e577729ce8", func := "stencil/stencillaw05.XplexBlanks", spec := "xplexBlanks", inPlace := ["internal/bytealg.IndexByteString", "internal/bytealg.IndexString"], unfollowed := true, recurses := true, named := ["stencil/xplex.signs", "internal/bytealg.MaxLen", "unicode/utf8.first", "unicode/utf8.acceptRanges"], apart := false, laid := [("unicode/utf8.acceptRanges", laid_unicode_utf8_acceptRanges), ("stencil/xplex.signs", laid_stencil_xplex_signs), ("unicode/utf8.first", laid_unicode_utf8_first)] }
def XplexBlanksSaid : Prop := xplexBlanksRow.holds Tryd.pinned (OpenSpec.ofChange xplexBlanksSpec)

/-- ITS FALSE NEIGHBOUR: 'it returns false'. Refute it at one input. -/
def xplexBlanksWrong : ChangeSpec := { name := "xplexBlanks", fn := fun _ => fun
  | [d1, d2] => { results := [.lit (.bool false)], args := [d1, d2] }
  | _ => none }
def XplexBlanksWrongFalsely : Prop := xplexBlanksRow.holds Tryd.pinned (OpenSpec.ofChange xplexBlanksWrong)

/-- 'stencillaw05.XplexLiterals': WHATEVER THE INPUT: true; the input reads as it did. -/
def xplexLiteralsSpec : ChangeSpec := { name := "xplexLiterals", fn := fun _ => fun
  | [d] => { results := [.lit (.bool true)], args := [d] }
  | _ => none }
def xplexLiteralsRow : OpenClaim := { program := "ytgabgeadeeaihaadoor", sum := "1b8d83bbde7e4412ceb600a4f1171aca12b27a2d2ca11c884f2ac8e577729ce8", func := "stencil/stencillaw05.XplexLiterals", spec := "xplexLiterals", inPlace := ["internal/bytealg.IndexByteString", "internal/bytealg.IndexString"], unfollowed := true, recurses := true, named := ["internal/bytealg.MaxLen", "stencil/xplex.signs", "unicode/utf8.first", "unicode/utf8.acceptRanges"], apart := false, laid := [("unicode/utf8.acceptRanges", laid_unicode_utf8_acceptRanges), ("stencil/xplex.signs", laid_stencil_xplex_signs), ("unicode/utf8.first", laid_unicode_utf8_first)] }
def XplexLiteralsSaid : Prop := xplexLiteralsRow.holds Tryd.pinned (OpenSpec.ofChange xplexLiteralsSpec)

/-- ITS FALSE NEIGHBOUR: 'it returns false'. Refute it at one input. -/
def xplexLiteralsWrong : ChangeSpec := { name := "xplexLiterals", fn := fun _ => fun
  | [d] => { results := [.lit (.bool false)], args := [d] }
  | _ => none }
def XplexLiteralsWrongFalsely : Prop := xplexLiteralsRow.holds Tryd.pinned (OpenSpec.ofChange xplexLiteralsWrong)

/-- 'stencillaw05.XplexNames': WHATEVER THE INPUT: true; the input reads as it did. -/
def xplexNamesSpec : ChangeSpec := { name := "xplexNames", fn := fun _ => fun
  | [d] => { results := [.lit (.bool true)], args := [d] }
  | _ => none }
def xplexNamesRow : OpenClaim := { program := "ytgabgeadeeaihaadoor", sum := "1b8d83bbde7e4412ceb600a4f1171aca12b27a2d2ca11c884f2ac8e577729ce8", func := "stencil/stencillaw05.XplexNames", spec := "xplexNames", inPlace := ["internal/bytealg.IndexByteString", "internal/bytealg.IndexString"], unfollowed := true, recurses := true, named := ["unicode/utf8.first", "unicode/utf8.acceptRanges", "stencil/xplex.signs", "internal/bytealg.MaxLen"], apart := false, laid := [("unicode/utf8.acceptRanges", laid_unicode_utf8_acceptRanges), ("stencil/xplex.signs", laid_stencil_xplex_signs), ("unicode/utf8.first", laid_unicode_utf8_first)] }
def XplexNamesSaid : Prop := xplexNamesRow.holds Tryd.pinned (OpenSpec.ofChange xplexNamesSpec)

/-- ITS FALSE NEIGHBOUR: 'it returns false'. Refute it at one input. -/
def xplexNamesWrong : ChangeSpec := { name := "xplexNames", fn := fun _ => fun
  | [d] => { results := [.lit (.bool false)], args := [d] }
  | _ => none }
def XplexNamesWrongFalsely : Prop := xplexNamesRow.holds Tryd.pinned (OpenSpec.ofChange xplexNamesWrong)

/-- 'stencillaw05.XplexPlaces': WHATEVER THE INPUT: true; the input reads as it did. -/
def xplexPlacesSpec : ChangeSpec := { name := "xplexPlaces", fn := fun _ => fun
  | [d] => { results := [.lit (.bool true)], args := [d] }
  | _ => none }
def xplexPlacesRow : OpenClaim := { program := "ytgabgeadeeaihaadoor", sum := "1b8d83bbde7e4412ceb600a4f1171aca12b27a2d2ca11c884f2ac8e577729ce8", func := "stencil/stencillaw05.XplexPlaces", spec := "xplexPlaces", inPlace := ["internal/bytealg.IndexByteString", "internal/bytealg.IndexString"], unfollowed := true, recurses := true, named := ["stencil/xplex.signs", "internal/bytealg.MaxLen", "unicode/utf8.first", "unicode/utf8.acceptRanges"], apart := false, laid := [("unicode/utf8.acceptRanges", laid_unicode_utf8_acceptRanges), ("stencil/xplex.signs", laid_stencil_xplex_signs), ("unicode/utf8.first", laid_unicode_utf8_first)] }
def XplexPlacesSaid : Prop := xplexPlacesRow.holds Tryd.pinned (OpenSpec.ofChange xplexPlacesSpec)

/-- ITS FALSE NEIGHBOUR: 'it returns false'. Refute it at one input. -/
def xplexPlacesWrong : ChangeSpec := { name := "xplexPlaces", fn := fun _ => fun
  | [d] => { results := [.lit (.bool false)], args := [d] }
  | _ => none }
def XplexPlacesWrongFalsely : Prop := xplexPlacesRow.holds Tryd.pinned (OpenSpec.ofChange xplexPlacesWrong)

/- THE SECOND FORM. 'bulk': how many values and letters a reading holds, each counted each time it is reached (what is shared counts as often as it is met; a slice's spare places count too). A statement '..UptoSaid' is the law's where the arguments, and the package variables that the reading takes, are together of bulk at most 1048576: NARROWER than '..Said'. Prove '..Said' where nothing that the law and all that it calls make is longer than what came in: it says more and counts as full. Else prove '..UptoSaid'. A law counts once. -/
mutual
def uptoBulk {H : Type} : DataW H → Nat
  | .lit (.string bytes) => bytes.length + 1
  | .lit _ => 1
  | .nil => 1
  | .ptr d => uptoBulk d + 1
  | .slice elems spare => uptoBulkAll elems + uptoBulkAll spare + 1
  | .agg parts => uptoBulkAll parts + 1
  | .iface _ d => uptoBulk d + 1
  | .map entries => uptoBulkEntries entries + 1
  | .held _ => 1
def uptoBulkAll {H : Type} : List (DataW H) → Nat
  | [] => 0
  | d :: r => uptoBulk d + uptoBulkAll r
def uptoBulkEntries {H : Type} : List (Lit × DataW H) → Nat
  | [] => 0
  | x :: r => uptoBulkEntry x + uptoBulkEntries r
def uptoBulkEntry {H : Type} : Lit × DataW H → Nat
  | (.string bytes, d) => bytes.length + uptoBulk d + 1
  | (_, d) => uptoBulk d + 1
 end
def uptoSmall : (H : Type) → List (DataW H) → Bool := fun _ ds => decide (uptoBulkAll ds ≤ 1048576)
def OpenSpec.upto (s : _root_.Go.ChangeSpec) : _root_.Go.OpenSpec := { _root_.Go.OpenSpec.ofChange s with cond := some uptoSmall }

/-- 'stencillaw05.XplexJoins', WHERE WHAT IT READS IS OF BULK AT MOST 1048576: true; the input reads as it did. -/
def xplexJoinsUptoRow : OpenClaim := { program := "ytgabgeadeeaihaadoor", sum := "1b8d83bbde7e4412ceb600a4f1171aca12b27a2d2ca11c884f2ac8e577729ce8", func := "stencil/stencillaw05.XplexJoins", spec := "xplexJoins", inPlace := ["internal/bytealg.IndexByteString", "internal/bytealg.IndexString", "internal/abi.NoEscape", "internal/bytealg.MakeNoZero"], unfollowed := true, recurses := true, named := ["internal/bytealg.MaxLen", "stencil/xplex.signs", "unicode/utf8.first", "unicode/utf8.acceptRanges"], apart := false, laid := [("unicode/utf8.acceptRanges", laid_unicode_utf8_acceptRanges), ("stencil/xplex.signs", laid_stencil_xplex_signs), ("unicode/utf8.first", laid_unicode_utf8_first)], narrowed := true }
def XplexJoinsUptoSaid : Prop := xplexJoinsUptoRow.holds Tryd.pinned (OpenSpec.upto xplexJoinsSpec)

/-- 'stencillaw05.XplexBack', WHERE WHAT IT READS IS OF BULK AT MOST 1048576: true; the input reads as it did. -/
def xplexBackUptoRow : OpenClaim := { program := "ytgabgeadeeaihaadoor", sum := "1b8d83bbde7e4412ceb600a4f1171aca12b27a2d2ca11c884f2ac8e577729ce8", func := "stencil/stencillaw05.XplexBack", spec := "xplexBack", inPlace := ["internal/bytealg.IndexByteString", "internal/bytealg.IndexString", "internal/abi.NoEscape", "internal/bytealg.MakeNoZero"], unfollowed := true, recurses := true, named := ["stencil/xplex.signs", "internal/bytealg.MaxLen", "unicode/utf8.first", "unicode/utf8.acceptRanges"], apart := false, laid := [("unicode/utf8.acceptRanges", laid_unicode_utf8_acceptRanges), ("stencil/xplex.signs", laid_stencil_xplex_signs), ("unicode/utf8.first", laid_unicode_utf8_first)], narrowed := true }
def XplexBackUptoSaid : Prop := xplexBackUptoRow.holds Tryd.pinned (OpenSpec.upto xplexBackSpec)

/-- 'stencillaw05.XplexBlanks', WHERE WHAT IT READS IS OF BULK AT MOST 1048576: true; the input reads as it did. -/
def xplexBlanksUptoRow : OpenClaim := { program := "ytgabgeadeeaihaadoor", sum := "1b8d83bbde7e4412ceb600a4f1171aca12b27a2d2ca11c884f2ac8e577729ce8", func := "stencil/stencillaw05.XplexBlanks", spec := "xplexBlanks", inPlace := ["internal/bytealg.IndexByteString", "internal/bytealg.IndexString"], unfollowed := true, recurses := true, named := ["stencil/xplex.signs", "internal/bytealg.MaxLen", "unicode/utf8.first", "unicode/utf8.acceptRanges"], apart := false, laid := [("unicode/utf8.acceptRanges", laid_unicode_utf8_acceptRanges), ("stencil/xplex.signs", laid_stencil_xplex_signs), ("unicode/utf8.first", laid_unicode_utf8_first)], narrowed := true }
def XplexBlanksUptoSaid : Prop := xplexBlanksUptoRow.holds Tryd.pinned (OpenSpec.upto xplexBlanksSpec)

/-- 'stencillaw05.XplexLiterals', WHERE WHAT IT READS IS OF BULK AT MOST 1048576: true; the input reads as it did. -/
def xplexLiteralsUptoRow : OpenClaim := { program := "ytgabgeadeeaihaadoor", sum := "1b8d83bbde7e4412ceb600a4f1171aca12b27a2d2ca11c884f2ac8e577729ce8", func := "stencil/stencillaw05.XplexLiterals", spec := "xplexLiterals", inPlace := ["internal/bytealg.IndexByteString", "internal/bytealg.IndexString"], unfollowed := true, recurses := true, named := ["internal/bytealg.MaxLen", "stencil/xplex.signs", "unicode/utf8.first", "unicode/utf8.acceptRanges"], apart := false, laid := [("unicode/utf8.acceptRanges", laid_unicode_utf8_acceptRanges), ("stencil/xplex.signs", laid_stencil_xplex_signs), ("unicode/utf8.first", laid_unicode_utf8_first)], narrowed := true }
def XplexLiteralsUptoSaid : Prop := xplexLiteralsUptoRow.holds Tryd.pinned (OpenSpec.upto xplexLiteralsSpec)

/-- 'stencillaw05.XplexNames', WHERE WHAT IT READS IS OF BULK AT MOST 1048576: true; the input reads as it did. -/
def xplexNamesUptoRow : OpenClaim := { program := "ytgabgeadeeaihaadoor", sum := "1b8d83bbde7e4412ceb600a4f1171aca12b27a2d2ca11c884f2ac8e577729ce8", func := "stencil/stencillaw05.XplexNames", spec := "xplexNames", inPlace := ["internal/bytealg.IndexByteString", "internal/bytealg.IndexString"], unfollowed := true, recurses := true, named := ["unicode/utf8.first", "unicode/utf8.acceptRanges", "stencil/xplex.signs", "internal/bytealg.MaxLen"], apart := false, laid := [("unicode/utf8.acceptRanges", laid_unicode_utf8_acceptRanges), ("stencil/xplex.signs", laid_stencil_xplex_signs), ("unicode/utf8.first", laid_unicode_utf8_first)], narrowed := true }
def XplexNamesUptoSaid : Prop := xplexNamesUptoRow.holds Tryd.pinned (OpenSpec.upto xplexNamesSpec)

/-- 'stencillaw05.XplexPlaces', WHERE WHAT IT READS IS OF BULK AT MOST 1048576: true; the input reads as it did. -/
def xplexPlacesUptoRow : OpenClaim := { program := "ytgabgeadeeaihaadoor", sum := "1b8d83bbde7e4412ceb600a4f1171aca12b27a2d2ca11c884f2ac8e577729ce8", func := "stencil/stencillaw05.XplexPlaces", spec := "xplexPlaces", inPlace := ["internal/bytealg.IndexByteString", "internal/bytealg.IndexString"], unfollowed := true, recurses := true, named := ["stencil/xplex.signs", "internal/bytealg.MaxLen", "unicode/utf8.first", "unicode/utf8.acceptRanges"], apart := false, laid := [("unicode/utf8.acceptRanges", laid_unicode_utf8_acceptRanges), ("stencil/xplex.signs", laid_stencil_xplex_signs), ("unicode/utf8.first", laid_unicode_utf8_first)], narrowed := true }
def XplexPlacesUptoSaid : Prop := xplexPlacesUptoRow.holds Tryd.pinned (OpenSpec.upto xplexPlacesSpec)

end Rows
end Go.Proofs.YtgabgeadeeaihaaDoor
