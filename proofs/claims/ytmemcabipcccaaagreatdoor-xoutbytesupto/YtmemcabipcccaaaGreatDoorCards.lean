/-
  DERIVED. GIVEN WITH THE SEED: THE CARDS: each row of YtmemcabipcccaaaGreatDoorRows.lean that lists a variable, with what it lists TIED to the program's text (the seventh form; the later family's looks); each row that meets fmt, with fmt's text TOLD by the authors' own Lean function (tested against real Go, not proved from fmt's source: count such statements apart). THE CARD IS WHAT COUNTS. Prove the row's statement (the work); the ties are given (YtmemcabipcccaaaGreatDoorTie.lean); close each card by the builder's one call (the guide's Derived/Test/ToyasCard.lean, 'card_holds'). Laid BY PROGRAM, IN A SANDBOX (cutbox-door.mjs). By AI agents, Wed Nov 11 2026. No macro, syntax, notation, axiom, sorry.
-/
import Derived.Test.YtmemcabipcccaaaGreatDoorRows
import GoSem.ClaimSeven
namespace Go.Proofs.YtmemcabipcccaaaGreatDoor
namespace Rows

/-- THE TIED CARD OF 'stencillaw10.XoutWrites'. -/
def xoutWritesCard : Claim7 := { stood := { row := xoutWritesRow, standIns := [], harness := (true, "0ab81057412edfbc4748570bfeb6292b7eca57c744e6e779632e15cd4b31099b"), looks := false }, kinds := [], alts := [], laidByText := true, laidKinds := [.data, .data, .data, .pinned, .pinned], laidTests := true, laidLooks := .later }
def XoutWritesCardSaid : Prop := Claim7.holds Tryz.pinned (.plain (OpenSpec.ofChange xoutWritesSpec)) xoutWritesCard

/-- THE TIED CARD OF 'stencillaw10.XoutBytes'. -/
def xoutBytesCard : Claim7 := { stood := { row := xoutBytesRow, standIns := [], harness := (true, "0ab81057412edfbc4748570bfeb6292b7eca57c744e6e779632e15cd4b31099b"), looks := false }, kinds := [], alts := [], laidByText := true, laidKinds := [.data, .data, .data, .pinned, .pinned], laidTests := true, laidLooks := .later }
def XoutBytesCardSaid : Prop := Claim7.holds Tryz.pinned (.plain (OpenSpec.ofChange xoutBytesSpec)) xoutBytesCard

/-- THE SECOND FORM's CARD OF 'stencillaw10.XoutWrites'. -/
def xoutWritesUptoCard : Claim7 := { stood := { row := xoutWritesUptoRow, standIns := [], harness := (true, "0ab81057412edfbc4748570bfeb6292b7eca57c744e6e779632e15cd4b31099b"), looks := false }, kinds := [], alts := [], laidByText := true, laidKinds := [.data, .data, .data, .pinned, .pinned], laidTests := true, laidLooks := .later }
def XoutWritesUptoCardSaid : Prop := Claim7.holds Tryz.pinned (.plain (OpenSpec.upto xoutWritesSpec)) xoutWritesUptoCard

/-- THE SECOND FORM's CARD OF 'stencillaw10.XoutBytes'. -/
def xoutBytesUptoCard : Claim7 := { stood := { row := xoutBytesUptoRow, standIns := [], harness := (true, "0ab81057412edfbc4748570bfeb6292b7eca57c744e6e779632e15cd4b31099b"), looks := false }, kinds := [], alts := [], laidByText := true, laidKinds := [.data, .data, .data, .pinned, .pinned], laidTests := true, laidLooks := .later }
def XoutBytesUptoCardSaid : Prop := Claim7.holds Tryz.pinned (.plain (OpenSpec.upto xoutBytesSpec)) xoutBytesUptoCard
end Rows
end Go.Proofs.YtmemcabipcccaaaGreatDoor
