/-
  NARROWER THAN 'FOR EVERY INPUT', by the rows' own cells (each row's printed sentence says how): XparseOrder: laid · XparseShort: laid · XparseCalls: laid.
  DERIVED. THE GIVEN ROWS OF THIS SEAT. 3 by the template 'for every input the law returns true; each argument reads behind the call as it read before'; 0 by the template 'total and deterministic' (their statements: YthkkfldmoflfaaaGreatDoorTotals.lean).
  GIVEN WITH THE SEED: the statements are not yours to turn. If you find one false, say at which input.
  Laid BY PROGRAM, IN A SANDBOX (cutbox-rows.mjs): the forced cells as the released guide's own fill.sh prints them over the translation 27169dad42382517… (all of the seat's roots in one cut). By AI agents, Wed Nov 11 2026. No macro, syntax, notation, axiom, sorry.
-/
import Derived.Test.YthkkfldmoflfaaaGreatDoorChecked
import GoSem.PinnedTables
import GoSem.Claim
import GoSem.ClaimJoined
import GoSem.ClaimMapViews
import Derived.JoinedTies
import Derived.KernelRfl
namespace Go.Proofs.YthkkfldmoflfaaaGreatDoor
/- THE CELL 'sum', in the pinned program and in every row, IS THE sha256 OF THE DUMP (.gsa) THAT YthkkfldmoflfaaaGreatDoorProg.lean LOADS. Nothing in Lean hashes anything: it is a label: what it is worth is what the hold of that sum in a sandbox is worth. -/
noncomputable def Tryz.pinned : Pinned := { name := "ythkkfldmoflfaaagreatdoor", sum := "27169dad423825176f36487e525990baa3cc0a5a0c64400bfe0e953b81b7927e", checked := Tryz.checked }
namespace Rows
def none {H : Type} : Left H := { results := [], args := [] }

/- WHAT THE LISTED PACKAGE-LEVEL VARIABLES READ AS WHEN THE CALL BEGINS. Each datum BY PROGRAM (the guide's laid-datum.mjs) off the statement by which the dump's own 'gosem.cut.vars' lays the variable. In a bare row this is a premise. The card (YthkkfldmoflfaaaGreatDoorCards.lean) ties it to the program's text. -/
def laid_math_bits_deBruijn32tab {H : Type} : DataW H := .agg [.lit (.int .u8 0), .lit (.int .u8 1), .lit (.int .u8 28), .lit (.int .u8 2), .lit (.int .u8 29), .lit (.int .u8 14), .lit (.int .u8 24), .lit (.int .u8 3), .lit (.int .u8 30), .lit (.int .u8 22), .lit (.int .u8 20), .lit (.int .u8 15), .lit (.int .u8 25), .lit (.int .u8 17), .lit (.int .u8 4), .lit (.int .u8 8), .lit (.int .u8 31), .lit (.int .u8 27), .lit (.int .u8 13), .lit (.int .u8 23), .lit (.int .u8 21), .lit (.int .u8 19), .lit (.int .u8 16), .lit (.int .u8 7), .lit (.int .u8 26), .lit (.int .u8 12), .lit (.int .u8 18), .lit (.int .u8 6), .lit (.int .u8 11), .lit (.int .u8 5), .lit (.int .u8 10), .lit (.int .u8 9)]
def laid_math_bits_deBruijn64tab {H : Type} : DataW H := .agg [.lit (.int .u8 0), .lit (.int .u8 1), .lit (.int .u8 56), .lit (.int .u8 2), .lit (.int .u8 57), .lit (.int .u8 49), .lit (.int .u8 28), .lit (.int .u8 3), .lit (.int .u8 61), .lit (.int .u8 58), .lit (.int .u8 42), .lit (.int .u8 50), .lit (.int .u8 38), .lit (.int .u8 29), .lit (.int .u8 17), .lit (.int .u8 4), .lit (.int .u8 62), .lit (.int .u8 47), .lit (.int .u8 59), .lit (.int .u8 36), .lit (.int .u8 45), .lit (.int .u8 43), .lit (.int .u8 51), .lit (.int .u8 22), .lit (.int .u8 53), .lit (.int .u8 39), .lit (.int .u8 33), .lit (.int .u8 30), .lit (.int .u8 24), .lit (.int .u8 18), .lit (.int .u8 12), .lit (.int .u8 5), .lit (.int .u8 63), .lit (.int .u8 55), .lit (.int .u8 48), .lit (.int .u8 27), .lit (.int .u8 60), .lit (.int .u8 41), .lit (.int .u8 37), .lit (.int .u8 16), .lit (.int .u8 46), .lit (.int .u8 35), .lit (.int .u8 44), .lit (.int .u8 21), .lit (.int .u8 52), .lit (.int .u8 32), .lit (.int .u8 23), .lit (.int .u8 11), .lit (.int .u8 54), .lit (.int .u8 26), .lit (.int .u8 40), .lit (.int .u8 15), .lit (.int .u8 34), .lit (.int .u8 20), .lit (.int .u8 31), .lit (.int .u8 10), .lit (.int .u8 25), .lit (.int .u8 14), .lit (.int .u8 19), .lit (.int .u8 9), .lit (.int .u8 13), .lit (.int .u8 8), .lit (.int .u8 7), .lit (.int .u8 6)]
def laid_internal_strconv_uint64pow10 {H : Type} : DataW H := .agg [.lit (.int .u64 1), .lit (.int .u64 10), .lit (.int .u64 100), .lit (.int .u64 1000), .lit (.int .u64 10000), .lit (.int .u64 100000), .lit (.int .u64 1000000), .lit (.int .u64 10000000), .lit (.int .u64 100000000), .lit (.int .u64 1000000000), .lit (.int .u64 10000000000), .lit (.int .u64 100000000000), .lit (.int .u64 1000000000000), .lit (.int .u64 10000000000000), .lit (.int .u64 100000000000000), .lit (.int .u64 1000000000000000), .lit (.int .u64 10000000000000000), .lit (.int .u64 100000000000000000), .lit (.int .u64 1000000000000000000), .lit (.int .u64 10000000000000000000)]
def laid_unicode_utf8_acceptRanges {H : Type} : DataW H := .agg [.agg [.lit (.int .u8 128), .lit (.int .u8 191)], .agg [.lit (.int .u8 160), .lit (.int .u8 191)], .agg [.lit (.int .u8 128), .lit (.int .u8 159)], .agg [.lit (.int .u8 144), .lit (.int .u8 191)], .agg [.lit (.int .u8 128), .lit (.int .u8 143)], .agg [.lit (.int .u8 0), .lit (.int .u8 0)], .agg [.lit (.int .u8 0), .lit (.int .u8 0)], .agg [.lit (.int .u8 0), .lit (.int .u8 0)], .agg [.lit (.int .u8 0), .lit (.int .u8 0)], .agg [.lit (.int .u8 0), .lit (.int .u8 0)], .agg [.lit (.int .u8 0), .lit (.int .u8 0)], .agg [.lit (.int .u8 0), .lit (.int .u8 0)], .agg [.lit (.int .u8 0), .lit (.int .u8 0)], .agg [.lit (.int .u8 0), .lit (.int .u8 0)], .agg [.lit (.int .u8 0), .lit (.int .u8 0)], .agg [.lit (.int .u8 0), .lit (.int .u8 0)]]
def laid_stencil_xplex_signs {H : Type} : DataW H := .agg [.agg [.lit (.int .i64 8), .lit (.string [47, 47]), .lit (.int .i64 0)], .agg [.lit (.int .i64 8), .lit (.string [33, 61]), .lit (.int .i64 0)], .agg [.lit (.int .i64 8), .lit (.string [60, 61]), .lit (.int .i64 0)], .agg [.lit (.int .i64 8), .lit (.string [62, 61]), .lit (.int .i64 0)], .agg [.lit (.int .i64 9), .lit (.string [58, 58]), .lit (.int .i64 0)], .agg [.lit (.int .i64 9), .lit (.string [46, 46]), .lit (.int .i64 0)], .agg [.lit (.int .i64 8), .lit (.string [47]), .lit (.int .i64 0)], .agg [.lit (.int .i64 8), .lit (.string [124]), .lit (.int .i64 0)], .agg [.lit (.int .i64 8), .lit (.string [43]), .lit (.int .i64 0)], .agg [.lit (.int .i64 8), .lit (.string [45]), .lit (.int .i64 0)], .agg [.lit (.int .i64 8), .lit (.string [61]), .lit (.int .i64 0)], .agg [.lit (.int .i64 8), .lit (.string [60]), .lit (.int .i64 0)], .agg [.lit (.int .i64 8), .lit (.string [62]), .lit (.int .i64 0)], .agg [.lit (.int .i64 9), .lit (.string [40]), .lit (.int .i64 0)], .agg [.lit (.int .i64 9), .lit (.string [41]), .lit (.int .i64 0)], .agg [.lit (.int .i64 9), .lit (.string [91]), .lit (.int .i64 0)], .agg [.lit (.int .i64 9), .lit (.string [93]), .lit (.int .i64 0)], .agg [.lit (.int .i64 9), .lit (.string [46]), .lit (.int .i64 0)], .agg [.lit (.int .i64 9), .lit (.string [64]), .lit (.int .i64 0)], .agg [.lit (.int .i64 9), .lit (.string [44]), .lit (.int .i64 0)]]
def laid_stencil_xparse_operators {H : Type} : DataW H := .agg [.agg [.lit (.string [111, 114]), .lit (.int .i64 1), .lit (.int .i64 0)], .agg [.lit (.string [97, 110, 100]), .lit (.int .i64 2), .lit (.int .i64 1)], .agg [.lit (.string [61]), .lit (.int .i64 3), .lit (.int .i64 2)], .agg [.lit (.string [33, 61]), .lit (.int .i64 4), .lit (.int .i64 2)], .agg [.lit (.string [60]), .lit (.int .i64 5), .lit (.int .i64 3)], .agg [.lit (.string [60, 61]), .lit (.int .i64 6), .lit (.int .i64 3)], .agg [.lit (.string [62]), .lit (.int .i64 7), .lit (.int .i64 3)], .agg [.lit (.string [62, 61]), .lit (.int .i64 8), .lit (.int .i64 3)], .agg [.lit (.string [43]), .lit (.int .i64 9), .lit (.int .i64 4)], .agg [.lit (.string [45]), .lit (.int .i64 10), .lit (.int .i64 4)], .agg [.lit (.string [42]), .lit (.int .i64 11), .lit (.int .i64 5)], .agg [.lit (.string [100, 105, 118]), .lit (.int .i64 12), .lit (.int .i64 5)], .agg [.lit (.string [109, 111, 100]), .lit (.int .i64 13), .lit (.int .i64 5)], .agg [.lit (.string [124]), .lit (.int .i64 15), .lit (.int .i64 7)]]
def laid_stencil_xparse_axes {H : Type} : DataW H := .agg [.lit (.string [99, 104, 105, 108, 100]), .lit (.string [100, 101, 115, 99, 101, 110, 100, 97, 110, 116]), .lit (.string [112, 97, 114, 101, 110, 116]), .lit (.string [97, 110, 99, 101, 115, 116, 111, 114]), .lit (.string [102, 111, 108, 108, 111, 119, 105, 110, 103, 45, 115, 105, 98, 108, 105, 110, 103]), .lit (.string [112, 114, 101, 99, 101, 100, 105, 110, 103, 45, 115, 105, 98, 108, 105, 110, 103]), .lit (.string [102, 111, 108, 108, 111, 119, 105, 110, 103]), .lit (.string [112, 114, 101, 99, 101, 100, 105, 110, 103]), .lit (.string [97, 116, 116, 114, 105, 98, 117, 116, 101]), .lit (.string [115, 101, 108, 102]), .lit (.string [100, 101, 115, 99, 101, 110, 100, 97, 110, 116, 45, 111, 114, 45, 115, 101, 108, 102]), .lit (.string [97, 110, 99, 101, 115, 116, 111, 114, 45, 111, 114, 45, 115, 101, 108, 102])]
def laid_stencil_xparse_types {H : Type} : DataW H := .agg [.lit (.string [110, 111, 100, 101]), .lit (.string [116, 101, 120, 116]), .lit (.string [99, 111, 109, 109, 101, 110, 116]), .lit (.string [112, 114, 111, 99, 101, 115, 115, 105, 110, 103, 45, 105, 110, 115, 116, 114, 117, 99, 116, 105, 111, 110])]
/-- One of Go's own tables, pinned by name: the form's constant. -/
def laid_unicode_utf8_first : DataW Unit := Go.Pinned.utf8First

/-- 'stencillaw06.XparseOrder': WHATEVER THE INPUT: true; the input reads as it did. -/
def xparseOrderSpec : ChangeSpec := { name := "xparseOrder", fn := fun _ => fun
  | [d1, d2] => { results := [.lit (.bool true)], args := [d1, d2] }
  | _ => none }
def xparseOrderRow : OpenClaim := { program := "ythkkfldmoflfaaagreatdoor", sum := "27169dad423825176f36487e525990baa3cc0a5a0c64400bfe0e953b81b7927e", func := "stencil/stencillaw06.XparseOrder", spec := "xparseOrder", inPlace := ["internal/bytealg.IndexByteString", "internal/bytealg.IndexString", "internal/abi.NoEscape", "internal/bytealg.MakeNoZero"], unfollowed := true, recurses := true, named := ["stencil/xplex.signs", "internal/bytealg.MaxLen", "unicode/utf8.first", "unicode/utf8.acceptRanges", "stencil/xparse.axes", "stencil/xparse.types", "stencil/xparse.operators", "math/bits.divideError", "math/bits.overflowError", "internal/strconv.uint64pow10", "math/bits.deBruijn32tab", "math/bits.deBruijn64tab"], apart := false, laid := [("math/bits.deBruijn32tab", laid_math_bits_deBruijn32tab), ("math/bits.deBruijn64tab", laid_math_bits_deBruijn64tab), ("internal/strconv.uint64pow10", laid_internal_strconv_uint64pow10), ("unicode/utf8.acceptRanges", laid_unicode_utf8_acceptRanges), ("stencil/xplex.signs", laid_stencil_xplex_signs), ("stencil/xparse.operators", laid_stencil_xparse_operators), ("stencil/xparse.axes", laid_stencil_xparse_axes), ("stencil/xparse.types", laid_stencil_xparse_types), ("unicode/utf8.first", laid_unicode_utf8_first)] }
def XparseOrderSaid : Prop := xparseOrderRow.holds Tryz.pinned (OpenSpec.ofChange xparseOrderSpec)

/-- ITS FALSE NEIGHBOUR: 'it returns false'. Refute it at one input. -/
def xparseOrderWrong : ChangeSpec := { name := "xparseOrder", fn := fun _ => fun
  | [d1, d2] => { results := [.lit (.bool false)], args := [d1, d2] }
  | _ => none }
def XparseOrderWrongFalsely : Prop := xparseOrderRow.holds Tryz.pinned (OpenSpec.ofChange xparseOrderWrong)

/-- 'stencillaw06.XparseShort': WHATEVER THE INPUT: true; the input reads as it did. -/
def xparseShortSpec : ChangeSpec := { name := "xparseShort", fn := fun _ => fun
  | [d1, d2] => { results := [.lit (.bool true)], args := [d1, d2] }
  | _ => none }
def xparseShortRow : OpenClaim := { program := "ythkkfldmoflfaaagreatdoor", sum := "27169dad423825176f36487e525990baa3cc0a5a0c64400bfe0e953b81b7927e", func := "stencil/stencillaw06.XparseShort", spec := "xparseShort", inPlace := ["internal/bytealg.IndexByteString", "internal/bytealg.IndexString", "internal/abi.NoEscape", "internal/bytealg.MakeNoZero"], unfollowed := true, recurses := true, named := ["unicode/utf8.first", "unicode/utf8.acceptRanges", "stencil/xplex.signs", "internal/bytealg.MaxLen", "stencil/xparse.axes", "stencil/xparse.types", "stencil/xparse.operators", "math/bits.divideError", "math/bits.overflowError", "internal/strconv.uint64pow10", "math/bits.deBruijn32tab", "math/bits.deBruijn64tab"], apart := false, laid := [("math/bits.deBruijn32tab", laid_math_bits_deBruijn32tab), ("math/bits.deBruijn64tab", laid_math_bits_deBruijn64tab), ("internal/strconv.uint64pow10", laid_internal_strconv_uint64pow10), ("unicode/utf8.acceptRanges", laid_unicode_utf8_acceptRanges), ("stencil/xplex.signs", laid_stencil_xplex_signs), ("stencil/xparse.operators", laid_stencil_xparse_operators), ("stencil/xparse.axes", laid_stencil_xparse_axes), ("stencil/xparse.types", laid_stencil_xparse_types), ("unicode/utf8.first", laid_unicode_utf8_first)] }
def XparseShortSaid : Prop := xparseShortRow.holds Tryz.pinned (OpenSpec.ofChange xparseShortSpec)

/-- ITS FALSE NEIGHBOUR: 'it returns false'. Refute it at one input. -/
def xparseShortWrong : ChangeSpec := { name := "xparseShort", fn := fun _ => fun
  | [d1, d2] => { results := [.lit (.bool false)], args := [d1, d2] }
  | _ => none }
def XparseShortWrongFalsely : Prop := xparseShortRow.holds Tryz.pinned (OpenSpec.ofChange xparseShortWrong)

/-- 'stencillaw06.XparseCalls': WHATEVER THE INPUT: true; the input reads as it did. -/
def xparseCallsSpec : ChangeSpec := { name := "xparseCalls", fn := fun _ => fun
  | [d1, d2] => { results := [.lit (.bool true)], args := [d1, d2] }
  | _ => none }
def xparseCallsRow : OpenClaim := { program := "ythkkfldmoflfaaagreatdoor", sum := "27169dad423825176f36487e525990baa3cc0a5a0c64400bfe0e953b81b7927e", func := "stencil/stencillaw06.XparseCalls", spec := "xparseCalls", inPlace := ["internal/bytealg.IndexByteString", "internal/bytealg.IndexString", "internal/abi.NoEscape", "internal/bytealg.MakeNoZero"], unfollowed := true, recurses := true, named := ["stencil/xplex.signs", "internal/bytealg.MaxLen", "unicode/utf8.first", "unicode/utf8.acceptRanges", "stencil/xparse.axes", "stencil/xparse.types", "stencil/xparse.operators", "math/bits.divideError", "math/bits.overflowError", "internal/strconv.uint64pow10", "math/bits.deBruijn32tab", "math/bits.deBruijn64tab"], apart := false, laid := [("math/bits.deBruijn32tab", laid_math_bits_deBruijn32tab), ("math/bits.deBruijn64tab", laid_math_bits_deBruijn64tab), ("internal/strconv.uint64pow10", laid_internal_strconv_uint64pow10), ("unicode/utf8.acceptRanges", laid_unicode_utf8_acceptRanges), ("stencil/xplex.signs", laid_stencil_xplex_signs), ("stencil/xparse.operators", laid_stencil_xparse_operators), ("stencil/xparse.axes", laid_stencil_xparse_axes), ("stencil/xparse.types", laid_stencil_xparse_types), ("unicode/utf8.first", laid_unicode_utf8_first)] }
def XparseCallsSaid : Prop := xparseCallsRow.holds Tryz.pinned (OpenSpec.ofChange xparseCallsSpec)

/-- ITS FALSE NEIGHBOUR: 'it returns false'. Refute it at one input. -/
def xparseCallsWrong : ChangeSpec := { name := "xparseCalls", fn := fun _ => fun
  | [d1, d2] => { results := [.lit (.bool false)], args := [d1, d2] }
  | _ => none }
def XparseCallsWrongFalsely : Prop := xparseCallsRow.holds Tryz.pinned (OpenSpec.ofChange xparseCallsWrong)

/- THE SECOND FORM. 'bulk': how many values and letters a reading holds, each counted each time it is reached (what is shared counts as often as it is met; a slice's spare places count too). A statement '..UptoSaid' is the law's where the arguments, and the package variables that the reading takes, are together of bulk at most 1048576: NARROWER than '..Said'. Prove '..Said' where nothing that the law and all that it calls make is longer than what came in: it says more and counts as full. Else prove '..UptoSaid'. A law counts once. -/
mutual
def uptoBulk {H : Type} : DataW H → Nat
  | .lit (.string bytes) => bytes.length + 1
  | .lit _ => 1
  | .nil => 1
  | .ptr d => uptoBulk d + 1
  | .slice elems spare => uptoBulkAll elems + uptoBulkAll spare + 1
  | .agg parts => uptoBulkAll parts + 1
  | .iface _ d => uptoBulk d + 1
  | .map entries => uptoBulkEntries entries + 1
  | .held _ => 1
def uptoBulkAll {H : Type} : List (DataW H) → Nat
  | [] => 0
  | d :: r => uptoBulk d + uptoBulkAll r
def uptoBulkEntries {H : Type} : List (Lit × DataW H) → Nat
  | [] => 0
  | x :: r => uptoBulkEntry x + uptoBulkEntries r
def uptoBulkEntry {H : Type} : Lit × DataW H → Nat
  | (.string bytes, d) => bytes.length + uptoBulk d + 1
  | (_, d) => uptoBulk d + 1
 end
def uptoSmall : (H : Type) → List (DataW H) → Bool := fun _ ds => decide (uptoBulkAll ds ≤ 1048576)
def OpenSpec.upto (s : _root_.Go.ChangeSpec) : _root_.Go.OpenSpec := { _root_.Go.OpenSpec.ofChange s with cond := some uptoSmall }

/-- 'stencillaw06.XparseOrder', WHERE WHAT IT READS IS OF BULK AT MOST 1048576: true; the input reads as it did. -/
def xparseOrderUptoRow : OpenClaim := { program := "ythkkfldmoflfaaagreatdoor", sum := "27169dad423825176f36487e525990baa3cc0a5a0c64400bfe0e953b81b7927e", func := "stencil/stencillaw06.XparseOrder", spec := "xparseOrder", inPlace := ["internal/bytealg.IndexByteString", "internal/bytealg.IndexString", "internal/abi.NoEscape", "internal/bytealg.MakeNoZero"], unfollowed := true, recurses := true, named := ["stencil/xplex.signs", "internal/bytealg.MaxLen", "unicode/utf8.first", "unicode/utf8.acceptRanges", "stencil/xparse.axes", "stencil/xparse.types", "stencil/xparse.operators", "math/bits.divideError", "math/bits.overflowError", "internal/strconv.uint64pow10", "math/bits.deBruijn32tab", "math/bits.deBruijn64tab"], apart := false, laid := [("math/bits.deBruijn32tab", laid_math_bits_deBruijn32tab), ("math/bits.deBruijn64tab", laid_math_bits_deBruijn64tab), ("internal/strconv.uint64pow10", laid_internal_strconv_uint64pow10), ("unicode/utf8.acceptRanges", laid_unicode_utf8_acceptRanges), ("stencil/xplex.signs", laid_stencil_xplex_signs), ("stencil/xparse.operators", laid_stencil_xparse_operators), ("stencil/xparse.axes", laid_stencil_xparse_axes), ("stencil/xparse.types", laid_stencil_xparse_types), ("unicode/utf8.first", laid_unicode_utf8_first)], narrowed := true }
def XparseOrderUptoSaid : Prop := xparseOrderUptoRow.holds Tryz.pinned (OpenSpec.upto xparseOrderSpec)

/-- 'stencillaw06.XparseShort', WHERE WHAT IT READS IS OF BULK AT MOST 1048576: true; the input reads as it did. -/
def xparseShortUptoRow : OpenClaim := { program := "ythkkfldmoflfaaagreatdoor", sum := "27169dad423825176f36487e525990baa3cc0a5a0c64400bfe0e953b81b7927e", func := "stencil/stencillaw06.XparseShort", spec := "xparseShort", inPlace := ["internal/bytealg.IndexByteString", "internal/bytealg.IndexString", "internal/abi.NoEscape", "internal/bytealg.MakeNoZero"], unfollowed := true, recurses := true, named := ["unicode/utf8.first", "unicode/utf8.acceptRanges", "stencil/xplex.signs", "internal/bytealg.MaxLen", "stencil/xparse.axes", "stencil/xparse.types", "stencil/xparse.operators", "math/bits.divideError", "math/bits.overflowError", "internal/strconv.uint64pow10", "math/bits.deBruijn32tab", "math/bits.deBruijn64tab"], apart := false, laid := [("math/bits.deBruijn32tab", laid_math_bits_deBruijn32tab), ("math/bits.deBruijn64tab", laid_math_bits_deBruijn64tab), ("internal/strconv.uint64pow10", laid_internal_strconv_uint64pow10), ("unicode/utf8.acceptRanges", laid_unicode_utf8_acceptRanges), ("stencil/xplex.signs", laid_stencil_xplex_signs), ("stencil/xparse.operators", laid_stencil_xparse_operators), ("stencil/xparse.axes", laid_stencil_xparse_axes), ("stencil/xparse.types", laid_stencil_xparse_types), ("unicode/utf8.first", laid_unicode_utf8_first)], narrowed := true }
def XparseShortUptoSaid : Prop := xparseShortUptoRow.holds Tryz.pinned (OpenSpec.upto xparseShortSpec)

/-- 'stencillaw06.XparseCalls', WHERE WHAT IT READS IS OF BULK AT MOST 1048576: true; the input reads as it did. -/
def xparseCallsUptoRow : OpenClaim := { program := "ythkkfldmoflfaaagreatdoor", sum := "27169dad423825176f36487e525990baa3cc0a5a0c64400bfe0e953b81b7927e", func := "stencil/stencillaw06.XparseCalls", spec := "xparseCalls", inPlace := ["internal/bytealg.IndexByteString", "internal/bytealg.IndexString", "internal/abi.NoEscape", "internal/bytealg.MakeNoZero"], unfollowed := true, recurses := true, named := ["stencil/xplex.signs", "internal/bytealg.MaxLen", "unicode/utf8.first", "unicode/utf8.acceptRanges", "stencil/xparse.axes", "stencil/xparse.types", "stencil/xparse.operators", "math/bits.divideError", "math/bits.overflowError", "internal/strconv.uint64pow10", "math/bits.deBruijn32tab", "math/bits.deBruijn64tab"], apart := false, laid := [("math/bits.deBruijn32tab", laid_math_bits_deBruijn32tab), ("math/bits.deBruijn64tab", laid_math_bits_deBruijn64tab), ("internal/strconv.uint64pow10", laid_internal_strconv_uint64pow10), ("unicode/utf8.acceptRanges", laid_unicode_utf8_acceptRanges), ("stencil/xplex.signs", laid_stencil_xplex_signs), ("stencil/xparse.operators", laid_stencil_xparse_operators), ("stencil/xparse.axes", laid_stencil_xparse_axes), ("stencil/xparse.types", laid_stencil_xparse_types), ("unicode/utf8.first", laid_unicode_utf8_first)], narrowed := true }
def XparseCallsUptoSaid : Prop := xparseCallsUptoRow.holds Tryz.pinned (OpenSpec.upto xparseCallsSpec)

end Rows
end Go.Proofs.YthkkfldmoflfaaaGreatDoor
