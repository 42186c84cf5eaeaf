/-
  DERIVED. GIVEN WITH THE SEED: THE CARDS: each row of YtoeahagloobmoaaGreatDoorRows.lean that lists a variable, with what it lists TIED to the program's text (the seventh form; the later family's looks); each row that meets fmt, with fmt's text TOLD by the authors' own Lean function (tested against real Go, not proved from fmt's source: count such statements apart). THE CARD IS WHAT COUNTS. Prove the row's statement (the work); the ties are given (YtoeahagloobmoaaGreatDoorTie.lean); close each card by the builder's one call (the guide's Derived/Test/ToyasCard.lean, 'card_holds'). Laid BY PROGRAM, IN A SANDBOX (cutbox-door.mjs). By AI agents, Wed Nov 11 2026. No macro, syntax, notation, axiom, sorry.
-/
import Derived.Test.YtoeahagloobmoaaGreatDoorRows
import GoSem.ClaimSeven
namespace Go.Proofs.YtoeahagloobmoaaGreatDoor
namespace Rows

/-- THE TIED CARD OF 'stencillaw13.XsortOrders'. -/
def xsortOrdersCard : Claim7 := { stood := { row := xsortOrdersRow, standIns := [], harness := (true, "42b8e0aee0aa92ab45598e7e4379584f5c4a2915864e5714ec1e9e018f31be76"), looks := false }, kinds := [], alts := [], laidByText := true, laidKinds := [.data, .data, .data, .data, .pinned, .pinned], laidTests := true, laidLooks := .later }
def XsortOrdersCardSaid : Prop := Claim7.holds Tryz.pinned (.plain (OpenSpec.ofChange xsortOrdersSpec)) xsortOrdersCard

/-- THE SECOND FORM's CARD OF 'stencillaw13.XsortOrders'. -/
def xsortOrdersUptoCard : Claim7 := { stood := { row := xsortOrdersUptoRow, standIns := [], harness := (true, "42b8e0aee0aa92ab45598e7e4379584f5c4a2915864e5714ec1e9e018f31be76"), looks := false }, kinds := [], alts := [], laidByText := true, laidKinds := [.data, .data, .data, .data, .pinned, .pinned], laidTests := true, laidLooks := .later }
def XsortOrdersUptoCardSaid : Prop := Claim7.holds Tryz.pinned (.plain (OpenSpec.upto xsortOrdersSpec)) xsortOrdersUptoCard
end Rows
end Go.Proofs.YtoeahagloobmoaaGreatDoor
