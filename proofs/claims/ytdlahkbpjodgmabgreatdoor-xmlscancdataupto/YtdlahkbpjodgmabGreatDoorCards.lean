/-
  DERIVED. GIVEN WITH THE SEED: THE CARDS: each row of YtdlahkbpjodgmabGreatDoorRows.lean that lists a variable, with what it lists TIED to the program's text (the seventh form; the later family's looks); each row that meets fmt, with fmt's text TOLD by the authors' own Lean function (tested against real Go, not proved from fmt's source: count such statements apart). THE CARD IS WHAT COUNTS. Prove the row's statement (the work); the ties are given (YtdlahkbpjodgmabGreatDoorTie.lean); close each card by the builder's one call (the guide's Derived/Test/ToyasCard.lean, 'card_holds'). Laid BY PROGRAM, IN A SANDBOX (cutbox-door.mjs). By AI agents, Wed Nov 11 2026. No macro, syntax, notation, axiom, sorry.
-/
import Derived.Test.YtdlahkbpjodgmabGreatDoorRows
import GoSem.ClaimSeven
namespace Go.Proofs.YtdlahkbpjodgmabGreatDoor
namespace Rows

/-- THE TIED CARD OF 'stencillaw03.XmlscanCdata'. -/
def xmlscanCdataCard : Claim7 := { stood := { row := xmlscanCdataRow, standIns := [], harness := (true, "42915e18d82e1b541c25a8b41248e7eb0277e7279b45dc00ed15ee4159596e8d"), looks := false }, kinds := [], alts := [], laidByText := true, laidKinds := [.data, .data, .data, .pinned, .pinned], laidTests := true, laidLooks := .later }
def XmlscanCdataCardSaid : Prop := Claim7.holds Tryz.pinned (.plain (OpenSpec.ofChange xmlscanCdataSpec)) xmlscanCdataCard

/-- THE SECOND FORM's CARD OF 'stencillaw03.XmlscanCdata'. -/
def xmlscanCdataUptoCard : Claim7 := { stood := { row := xmlscanCdataUptoRow, standIns := [], harness := (true, "42915e18d82e1b541c25a8b41248e7eb0277e7279b45dc00ed15ee4159596e8d"), looks := false }, kinds := [], alts := [], laidByText := true, laidKinds := [.data, .data, .data, .pinned, .pinned], laidTests := true, laidLooks := .later }
def XmlscanCdataUptoCardSaid : Prop := Claim7.holds Tryz.pinned (.plain (OpenSpec.upto xmlscanCdataSpec)) xmlscanCdataUptoCard
end Rows
end Go.Proofs.YtdlahkbpjodgmabGreatDoor
