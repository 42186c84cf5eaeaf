/-
  DERIVED. GIVEN WITH THE SEED: THE CARDS: each row of YtllhajjceecjdaaGreatDoorRows.lean that lists a variable, with what it lists TIED to the program's text (the seventh form; the later family's looks); each row that meets fmt, with fmt's text TOLD by the authors' own Lean function (tested against real Go, not proved from fmt's source: count such statements apart). THE CARD IS WHAT COUNTS. Prove the row's statement (the work); the ties are given (YtllhajjceecjdaaGreatDoorTie.lean); close each card by the builder's one call (the guide's Derived/Test/ToyasCard.lean, 'card_holds'). Laid BY PROGRAM, IN A SANDBOX (cutbox-door.mjs). By AI agents, Wed Nov 11 2026. No macro, syntax, notation, axiom, sorry.
-/
import Derived.Test.YtllhajjceecjdaaGreatDoorRows
import GoSem.ClaimSeven
namespace Go.Proofs.YtllhajjceecjdaaGreatDoor
namespace Rows

/-- THE TIED CARD OF 'stencillaw14.XbuildNone'. -/
def xbuildNoneCard : Claim7 := { stood := { row := xbuildNoneRow, standIns := [], harness := (true, "638112525f872d198a4d41ae92a866ae59f079104878916177683e12d96f6bc3"), looks := true }, kinds := [], alts := [], laidByText := true, laidKinds := [.data, .data, .data, .pinned, .pinned], laidTests := true, laidLooks := .later }
def XbuildNoneCardSaid : Prop := Claim7.holds Tryz.pinned (.plain (OpenSpec.ofChange xbuildNoneSpec)) xbuildNoneCard

/-- THE SECOND FORM's CARD OF 'stencillaw14.XbuildNone'. -/
def xbuildNoneUptoCard : Claim7 := { stood := { row := xbuildNoneUptoRow, standIns := [], harness := (true, "638112525f872d198a4d41ae92a866ae59f079104878916177683e12d96f6bc3"), looks := true }, kinds := [], alts := [], laidByText := true, laidKinds := [.data, .data, .data, .pinned, .pinned], laidTests := true, laidLooks := .later }
def XbuildNoneUptoCardSaid : Prop := Claim7.holds Tryz.pinned (.plain (OpenSpec.upto xbuildNoneSpec)) xbuildNoneUptoCard
end Rows
end Go.Proofs.YtllhajjceecjdaaGreatDoor
