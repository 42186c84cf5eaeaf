/-
  DERIVED. GIVEN WITH THE SEED: THE CARDS: each row of YtnmcambbpgoodaaGreatDoorRows.lean that lists a variable, with what it lists TIED to the program's text (the seventh form; the later family's looks); each row that meets fmt, with fmt's text TOLD by the authors' own Lean function (tested against real Go, not proved from fmt's source: count such statements apart). THE CARD IS WHAT COUNTS. Prove the row's statement (the work); the ties are given (YtnmcambbpgoodaaGreatDoorTie.lean); close each card by the builder's one call (the guide's Derived/Test/ToyasCard.lean, 'card_holds'). Laid BY PROGRAM, IN A SANDBOX (cutbox-door.mjs). By AI agents, Wed Nov 11 2026. No macro, syntax, notation, axiom, sorry.
-/
import Derived.Test.YtnmcambbpgoodaaGreatDoorRows
import GoSem.ClaimSeven
namespace Go.Proofs.YtnmcambbpgoodaaGreatDoor
namespace Rows

/-- THE TIED CARD OF 'stenciltop.TopSpaced'. -/
def topSpacedCard : Claim7 := { stood := { row := topSpacedRow, standIns := [], harness := (true, "88d1f8046c517e524a7ef0f176e97bf17aca997bcc41e8121b7125ab0045a25d"), looks := true }, kinds := [], alts := [], laidByText := true, laidKinds := [.data, .data, .data, .data, .data, .pinned], laidTests := true, laidLooks := .later }
def TopSpacedCardSaid : Prop := Claim7.holds Tryz.pinned (.plain (OpenSpec.ofChange topSpacedSpec)) topSpacedCard

/-- THE TIED CARD OF 'stenciltop.TopWithin'. -/
def topWithinCard : Claim7 := { stood := { row := topWithinRow, standIns := [], harness := (true, "88d1f8046c517e524a7ef0f176e97bf17aca997bcc41e8121b7125ab0045a25d"), looks := true }, kinds := [], alts := [], laidByText := true, laidKinds := [.data, .data, .data, .data, .data, .pinned], laidTests := true, laidLooks := .later }
def TopWithinCardSaid : Prop := Claim7.holds Tryz.pinned (.plain (OpenSpec.ofChange topWithinSpec)) topWithinCard

/-- THE SECOND FORM's CARD OF 'stenciltop.TopSpaced'. -/
def topSpacedUptoCard : Claim7 := { stood := { row := topSpacedUptoRow, standIns := [], harness := (true, "88d1f8046c517e524a7ef0f176e97bf17aca997bcc41e8121b7125ab0045a25d"), looks := true }, kinds := [], alts := [], laidByText := true, laidKinds := [.data, .data, .data, .data, .data, .pinned], laidTests := true, laidLooks := .later }
def TopSpacedUptoCardSaid : Prop := Claim7.holds Tryz.pinned (.plain (OpenSpec.upto topSpacedSpec)) topSpacedUptoCard

/-- THE SECOND FORM's CARD OF 'stenciltop.TopWithin'. -/
def topWithinUptoCard : Claim7 := { stood := { row := topWithinUptoRow, standIns := [], harness := (true, "88d1f8046c517e524a7ef0f176e97bf17aca997bcc41e8121b7125ab0045a25d"), looks := true }, kinds := [], alts := [], laidByText := true, laidKinds := [.data, .data, .data, .data, .data, .pinned], laidTests := true, laidLooks := .later }
def TopWithinUptoCardSaid : Prop := Claim7.holds Tryz.pinned (.plain (OpenSpec.upto topWithinSpec)) topWithinUptoCard
end Rows
end Go.Proofs.YtnmcambbpgoodaaGreatDoor
