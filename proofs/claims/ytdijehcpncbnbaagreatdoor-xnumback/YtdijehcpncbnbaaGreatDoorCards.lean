/-
  DERIVED. GIVEN WITH THE SEED: THE CARDS: each row of YtdijehcpncbnbaaGreatDoorRows.lean that lists a variable, with what it lists TIED to the program's text (the seventh form; the later family's looks); each row that meets fmt, with fmt's text TOLD by the authors' own Lean function (tested against real Go, not proved from fmt's source: count such statements apart). THE CARD IS WHAT COUNTS. Prove the row's statement (the work); the ties are given (YtdijehcpncbnbaaGreatDoorTie.lean); close each card by the builder's one call (the guide's Derived/Test/ToyasCard.lean, 'card_holds'). Laid BY PROGRAM, IN A SANDBOX (cutbox-door.mjs). By AI agents, Wed Nov 11 2026. No macro, syntax, notation, axiom, sorry.
-/
import Derived.Test.YtdijehcpncbnbaaGreatDoorRows
import GoSem.ClaimSeven
namespace Go.Proofs.YtdijehcpncbnbaaGreatDoor
namespace Rows

/-- THE TIED CARD OF 'stencillaw02.XnumTurns'. -/
def xnumTurnsCard : Claim7 := { stood := { row := xnumTurnsRow, standIns := [], harness := (true, "4cb89502f3766502e2daa2ad277fc5a7b8b1be6d49071c88cd171097d2a8dc5e"), looks := false }, kinds := [], alts := [], laidByText := true, laidKinds := [.data, .data, .data, .data, .pinned], laidTests := true, laidLooks := .later }
def XnumTurnsCardSaid : Prop := Claim7.holds Tryz.pinned (.plain (OpenSpec.ofChange xnumTurnsSpec)) xnumTurnsCard

/-- THE TIED CARD OF 'stencillaw02.XnumReckons'. -/
def xnumReckonsCard : Claim7 := { stood := { row := xnumReckonsRow, standIns := [], harness := (true, "4cb89502f3766502e2daa2ad277fc5a7b8b1be6d49071c88cd171097d2a8dc5e"), looks := false }, kinds := [], alts := [], laidByText := true, laidKinds := [.data, .data, .data, .data, .pinned], laidTests := true, laidLooks := .later }
def XnumReckonsCardSaid : Prop := Claim7.holds Tryz.pinned (.plain (OpenSpec.ofChange xnumReckonsSpec)) xnumReckonsCard

/-- THE TIED CARD OF 'stencillaw02.XnumBack'. -/
def xnumBackCard : Claim7 := { stood := { row := xnumBackRow, standIns := [], harness := (true, "4cb89502f3766502e2daa2ad277fc5a7b8b1be6d49071c88cd171097d2a8dc5e"), looks := false }, kinds := [], alts := [], laidByText := true, laidKinds := [.data, .data, .data, .data, .pinned], laidTests := true, laidLooks := .later }
def XnumBackCardSaid : Prop := Claim7.holds Tryz.pinned (.plain (OpenSpec.ofChange xnumBackSpec)) xnumBackCard

/-- THE TIED CARD OF 'stencillaw02.XnumTexts'. -/
def xnumTextsCard : Claim7 := { stood := { row := xnumTextsRow, standIns := [], harness := (true, "4cb89502f3766502e2daa2ad277fc5a7b8b1be6d49071c88cd171097d2a8dc5e"), looks := false }, kinds := [], alts := [], laidByText := true, laidKinds := [.data, .data, .data, .data, .pinned], laidTests := true, laidLooks := .later }
def XnumTextsCardSaid : Prop := Claim7.holds Tryz.pinned (.plain (OpenSpec.ofChange xnumTextsSpec)) xnumTextsCard

/-- THE SECOND FORM's CARD OF 'stencillaw02.XnumTurns'. -/
def xnumTurnsUptoCard : Claim7 := { stood := { row := xnumTurnsUptoRow, standIns := [], harness := (true, "4cb89502f3766502e2daa2ad277fc5a7b8b1be6d49071c88cd171097d2a8dc5e"), looks := false }, kinds := [], alts := [], laidByText := true, laidKinds := [.data, .data, .data, .data, .pinned], laidTests := true, laidLooks := .later }
def XnumTurnsUptoCardSaid : Prop := Claim7.holds Tryz.pinned (.plain (OpenSpec.upto xnumTurnsSpec)) xnumTurnsUptoCard

/-- THE SECOND FORM's CARD OF 'stencillaw02.XnumReckons'. -/
def xnumReckonsUptoCard : Claim7 := { stood := { row := xnumReckonsUptoRow, standIns := [], harness := (true, "4cb89502f3766502e2daa2ad277fc5a7b8b1be6d49071c88cd171097d2a8dc5e"), looks := false }, kinds := [], alts := [], laidByText := true, laidKinds := [.data, .data, .data, .data, .pinned], laidTests := true, laidLooks := .later }
def XnumReckonsUptoCardSaid : Prop := Claim7.holds Tryz.pinned (.plain (OpenSpec.upto xnumReckonsSpec)) xnumReckonsUptoCard

/-- THE SECOND FORM's CARD OF 'stencillaw02.XnumBack'. -/
def xnumBackUptoCard : Claim7 := { stood := { row := xnumBackUptoRow, standIns := [], harness := (true, "4cb89502f3766502e2daa2ad277fc5a7b8b1be6d49071c88cd171097d2a8dc5e"), looks := false }, kinds := [], alts := [], laidByText := true, laidKinds := [.data, .data, .data, .data, .pinned], laidTests := true, laidLooks := .later }
def XnumBackUptoCardSaid : Prop := Claim7.holds Tryz.pinned (.plain (OpenSpec.upto xnumBackSpec)) xnumBackUptoCard

/-- THE SECOND FORM's CARD OF 'stencillaw02.XnumTexts'. -/
def xnumTextsUptoCard : Claim7 := { stood := { row := xnumTextsUptoRow, standIns := [], harness := (true, "4cb89502f3766502e2daa2ad277fc5a7b8b1be6d49071c88cd171097d2a8dc5e"), looks := false }, kinds := [], alts := [], laidByText := true, laidKinds := [.data, .data, .data, .data, .pinned], laidTests := true, laidLooks := .later }
def XnumTextsUptoCardSaid : Prop := Claim7.holds Tryz.pinned (.plain (OpenSpec.upto xnumTextsSpec)) xnumTextsUptoCard
end Rows
end Go.Proofs.YtdijehcpncbnbaaGreatDoor
