/-
  DERIVED. GIVEN WITH THE SEED: THE CARDS: each row of YthkkfldmoflfaaaGreatDoorRows.lean that lists a variable, with what it lists TIED to the program's text (the seventh form; the later family's looks); each row that meets fmt, with fmt's text TOLD by the authors' own Lean function (tested against real Go, not proved from fmt's source: count such statements apart). THE CARD IS WHAT COUNTS. Prove the row's statement (the work); the ties are given (YthkkfldmoflfaaaGreatDoorTie.lean); close each card by the builder's one call (the guide's Derived/Test/ToyasCard.lean, 'card_holds'). Laid BY PROGRAM, IN A SANDBOX (cutbox-door.mjs). By AI agents, Wed Nov 11 2026. No macro, syntax, notation, axiom, sorry.
-/
import Derived.Test.YthkkfldmoflfaaaGreatDoorRows
import GoSem.ClaimSeven
namespace Go.Proofs.YthkkfldmoflfaaaGreatDoor
namespace Rows

/-- THE TIED CARD OF 'stencillaw06.XparseOrder'. -/
def xparseOrderCard : Claim7 := { stood := { row := xparseOrderRow, standIns := [], harness := (true, "3f146148ce60c001e9692cf2d4f9f2759735a3382765d4576de3d1badb80b5f6"), looks := true }, kinds := [], alts := [], laidByText := true, laidKinds := [.data, .data, .data, .data, .data, .data, .data, .data, .pinned], laidTests := true, laidLooks := .later }
def XparseOrderCardSaid : Prop := Claim7.holds Tryz.pinned (.plain (OpenSpec.ofChange xparseOrderSpec)) xparseOrderCard

/-- THE TIED CARD OF 'stencillaw06.XparseShort'. -/
def xparseShortCard : Claim7 := { stood := { row := xparseShortRow, standIns := [], harness := (true, "3f146148ce60c001e9692cf2d4f9f2759735a3382765d4576de3d1badb80b5f6"), looks := true }, kinds := [], alts := [], laidByText := true, laidKinds := [.data, .data, .data, .data, .data, .data, .data, .data, .pinned], laidTests := true, laidLooks := .later }
def XparseShortCardSaid : Prop := Claim7.holds Tryz.pinned (.plain (OpenSpec.ofChange xparseShortSpec)) xparseShortCard

/-- THE TIED CARD OF 'stencillaw06.XparseCalls'. -/
def xparseCallsCard : Claim7 := { stood := { row := xparseCallsRow, standIns := [], harness := (true, "3f146148ce60c001e9692cf2d4f9f2759735a3382765d4576de3d1badb80b5f6"), looks := true }, kinds := [], alts := [], laidByText := true, laidKinds := [.data, .data, .data, .data, .data, .data, .data, .data, .pinned], laidTests := true, laidLooks := .later }
def XparseCallsCardSaid : Prop := Claim7.holds Tryz.pinned (.plain (OpenSpec.ofChange xparseCallsSpec)) xparseCallsCard

/-- THE SECOND FORM's CARD OF 'stencillaw06.XparseOrder'. -/
def xparseOrderUptoCard : Claim7 := { stood := { row := xparseOrderUptoRow, standIns := [], harness := (true, "3f146148ce60c001e9692cf2d4f9f2759735a3382765d4576de3d1badb80b5f6"), looks := true }, kinds := [], alts := [], laidByText := true, laidKinds := [.data, .data, .data, .data, .data, .data, .data, .data, .pinned], laidTests := true, laidLooks := .later }
def XparseOrderUptoCardSaid : Prop := Claim7.holds Tryz.pinned (.plain (OpenSpec.upto xparseOrderSpec)) xparseOrderUptoCard

/-- THE SECOND FORM's CARD OF 'stencillaw06.XparseShort'. -/
def xparseShortUptoCard : Claim7 := { stood := { row := xparseShortUptoRow, standIns := [], harness := (true, "3f146148ce60c001e9692cf2d4f9f2759735a3382765d4576de3d1badb80b5f6"), looks := true }, kinds := [], alts := [], laidByText := true, laidKinds := [.data, .data, .data, .data, .data, .data, .data, .data, .pinned], laidTests := true, laidLooks := .later }
def XparseShortUptoCardSaid : Prop := Claim7.holds Tryz.pinned (.plain (OpenSpec.upto xparseShortSpec)) xparseShortUptoCard

/-- THE SECOND FORM's CARD OF 'stencillaw06.XparseCalls'. -/
def xparseCallsUptoCard : Claim7 := { stood := { row := xparseCallsUptoRow, standIns := [], harness := (true, "3f146148ce60c001e9692cf2d4f9f2759735a3382765d4576de3d1badb80b5f6"), looks := true }, kinds := [], alts := [], laidByText := true, laidKinds := [.data, .data, .data, .data, .data, .data, .data, .data, .pinned], laidTests := true, laidLooks := .later }
def XparseCallsUptoCardSaid : Prop := Claim7.holds Tryz.pinned (.plain (OpenSpec.upto xparseCallsSpec)) xparseCallsUptoCard
end Rows
end Go.Proofs.YthkkfldmoflfaaaGreatDoor
