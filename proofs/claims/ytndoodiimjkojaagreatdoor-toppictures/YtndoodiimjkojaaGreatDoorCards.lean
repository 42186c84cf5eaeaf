/-
  DERIVED. GIVEN WITH THE SEED: THE CARDS: each row of YtndoodiimjkojaaGreatDoorRows.lean that lists a variable, with what it lists TIED to the program's text (the seventh form; the later family's looks); each row that meets fmt, with fmt's text TOLD by the authors' own Lean function (tested against real Go, not proved from fmt's source: count such statements apart). THE CARD IS WHAT COUNTS. Prove the row's statement (the work); the ties are given (YtndoodiimjkojaaGreatDoorTie.lean); close each card by the builder's one call (the guide's Derived/Test/ToyasCard.lean, 'card_holds'). Laid BY PROGRAM, IN A SANDBOX (cutbox-door.mjs). By AI agents, Wed Nov 11 2026. No macro, syntax, notation, axiom, sorry.
-/
import Derived.Test.YtndoodiimjkojaaGreatDoorRows
import GoSem.ClaimSeven
namespace Go.Proofs.YtndoodiimjkojaaGreatDoor
namespace Rows

/-- THE TIED CARD OF 'stenciltop.TopPictures'. -/
def topPicturesCard : Claim7 := { stood := { row := topPicturesRow, standIns := [], harness := (true, "4cf9023d13f4b9397bd5948fa2ef3f15ccc5d588385a8c2129363ebe91e5d63d"), looks := false }, kinds := [], alts := [], laidByText := true, laidKinds := [.data, .data, .data, .data, .pinned], laidTests := true, laidLooks := .later }
def TopPicturesCardSaid : Prop := Claim7.holds Tryz.pinned (.plain (OpenSpec.ofChange topPicturesSpec)) topPicturesCard

/-- THE SECOND FORM's CARD OF 'stenciltop.TopPictures'. -/
def topPicturesUptoCard : Claim7 := { stood := { row := topPicturesUptoRow, standIns := [], harness := (true, "4cf9023d13f4b9397bd5948fa2ef3f15ccc5d588385a8c2129363ebe91e5d63d"), looks := false }, kinds := [], alts := [], laidByText := true, laidKinds := [.data, .data, .data, .data, .pinned], laidTests := true, laidLooks := .later }
def TopPicturesUptoCardSaid : Prop := Claim7.holds Tryz.pinned (.plain (OpenSpec.upto topPicturesSpec)) topPicturesUptoCard
end Rows
end Go.Proofs.YtndoodiimjkojaaGreatDoor
