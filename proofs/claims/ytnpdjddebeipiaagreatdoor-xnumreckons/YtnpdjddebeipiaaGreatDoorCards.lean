/-
  DERIVED. GIVEN WITH THE SEED: THE CARDS: each row of YtnpdjddebeipiaaGreatDoorRows.lean that lists a variable, with what it lists TIED to the program's text (the seventh form; the later family's looks); each row that meets fmt, with fmt's text TOLD by the authors' own Lean function (tested against real Go, not proved from fmt's source: count such statements apart). THE CARD IS WHAT COUNTS. Prove the row's statement (the work); the ties are given (YtnpdjddebeipiaaGreatDoorTie.lean); close each card by the builder's one call (the guide's Derived/Test/ToyasCard.lean, 'card_holds'). Laid BY PROGRAM, IN A SANDBOX (cutbox-door.mjs). By AI agents, Wed Nov 11 2026. No macro, syntax, notation, axiom, sorry.
-/
import Derived.Test.YtnpdjddebeipiaaGreatDoorRows
import GoSem.ClaimSeven
namespace Go.Proofs.YtnpdjddebeipiaaGreatDoor
namespace Rows

/-- THE TIED CARD OF 'stencillaw02.XnumReckons'. -/
def xnumReckonsCard : Claim7 := { stood := { row := xnumReckonsRow, standIns := [], harness := (true, "f7deaa07cc59cf3e31ee8dc0644c3d80b74940cd3c70c74dfcbfc42bb2ee156c"), looks := false }, kinds := [], alts := [], laidByText := true, laidKinds := [.data, .data, .data, .data, .pinned], laidTests := true, laidLooks := .later }
def XnumReckonsCardSaid : Prop := Claim7.holds Tryz.pinned (.plain (OpenSpec.ofChange xnumReckonsSpec)) xnumReckonsCard

/-- THE SECOND FORM's CARD OF 'stencillaw02.XnumReckons'. -/
def xnumReckonsUptoCard : Claim7 := { stood := { row := xnumReckonsUptoRow, standIns := [], harness := (true, "f7deaa07cc59cf3e31ee8dc0644c3d80b74940cd3c70c74dfcbfc42bb2ee156c"), looks := false }, kinds := [], alts := [], laidByText := true, laidKinds := [.data, .data, .data, .data, .pinned], laidTests := true, laidLooks := .later }
def XnumReckonsUptoCardSaid : Prop := Claim7.holds Tryz.pinned (.plain (OpenSpec.upto xnumReckonsSpec)) xnumReckonsUptoCard
end Rows
end Go.Proofs.YtnpdjddebeipiaaGreatDoor
