/-
  DERIVED. GIVEN WITH THE SEED: THE CARDS: each row of YtmaefnmjfkbplaaGreatDoorRows.lean that lists a variable, with what it lists TIED to the program's text (the seventh form; the later family's looks); each row that meets fmt, with fmt's text TOLD by the authors' own Lean function (tested against real Go, not proved from fmt's source: count such statements apart). THE CARD IS WHAT COUNTS. Prove the row's statement (the work); the ties are given (YtmaefnmjfkbplaaGreatDoorTie.lean); close each card by the builder's one call (the guide's Derived/Test/ToyasCard.lean, 'card_holds'). Laid BY PROGRAM, IN A SANDBOX (cutbox-door.mjs). By AI agents, Wed Nov 11 2026. No macro, syntax, notation, axiom, sorry.
-/
import Derived.Test.YtmaefnmjfkbplaaGreatDoorRows
import GoSem.ClaimSeven
namespace Go.Proofs.YtmaefnmjfkbplaaGreatDoor
namespace Rows

/-- THE TIED CARD OF 'stencillaw02.XnumReckons'. -/
def xnumReckonsCard : Claim7 := { stood := { row := xnumReckonsRow, standIns := [], harness := (true, "5166f39872bf689d80108ad159f1eb0e1585a5a8b116fd022350c43295f2f7cb"), looks := false }, kinds := [], alts := [], laidByText := true, laidKinds := [.data, .data, .data, .data, .pinned], laidTests := true, laidLooks := .later }
def XnumReckonsCardSaid : Prop := Claim7.holds Tryz.pinned (.plain (OpenSpec.ofChange xnumReckonsSpec)) xnumReckonsCard

/-- THE TIED CARD OF 'stencillaw02.XnumTexts'. -/
def xnumTextsCard : Claim7 := { stood := { row := xnumTextsRow, standIns := [], harness := (true, "5166f39872bf689d80108ad159f1eb0e1585a5a8b116fd022350c43295f2f7cb"), looks := false }, kinds := [], alts := [], laidByText := true, laidKinds := [.data, .data, .data, .data, .pinned], laidTests := true, laidLooks := .later }
def XnumTextsCardSaid : Prop := Claim7.holds Tryz.pinned (.plain (OpenSpec.ofChange xnumTextsSpec)) xnumTextsCard

/-- THE TIED CARD OF 'stencillaw02.XnumTurns'. -/
def xnumTurnsCard : Claim7 := { stood := { row := xnumTurnsRow, standIns := [], harness := (true, "5166f39872bf689d80108ad159f1eb0e1585a5a8b116fd022350c43295f2f7cb"), looks := false }, kinds := [], alts := [], laidByText := true, laidKinds := [.data, .data, .data, .data, .pinned], laidTests := true, laidLooks := .later }
def XnumTurnsCardSaid : Prop := Claim7.holds Tryz.pinned (.plain (OpenSpec.ofChange xnumTurnsSpec)) xnumTurnsCard

/-- THE SECOND FORM's CARD OF 'stencillaw02.XnumReckons'. -/
def xnumReckonsUptoCard : Claim7 := { stood := { row := xnumReckonsUptoRow, standIns := [], harness := (true, "5166f39872bf689d80108ad159f1eb0e1585a5a8b116fd022350c43295f2f7cb"), looks := false }, kinds := [], alts := [], laidByText := true, laidKinds := [.data, .data, .data, .data, .pinned], laidTests := true, laidLooks := .later }
def XnumReckonsUptoCardSaid : Prop := Claim7.holds Tryz.pinned (.plain (OpenSpec.upto xnumReckonsSpec)) xnumReckonsUptoCard

/-- THE SECOND FORM's CARD OF 'stencillaw02.XnumTexts'. -/
def xnumTextsUptoCard : Claim7 := { stood := { row := xnumTextsUptoRow, standIns := [], harness := (true, "5166f39872bf689d80108ad159f1eb0e1585a5a8b116fd022350c43295f2f7cb"), looks := false }, kinds := [], alts := [], laidByText := true, laidKinds := [.data, .data, .data, .data, .pinned], laidTests := true, laidLooks := .later }
def XnumTextsUptoCardSaid : Prop := Claim7.holds Tryz.pinned (.plain (OpenSpec.upto xnumTextsSpec)) xnumTextsUptoCard

/-- THE SECOND FORM's CARD OF 'stencillaw02.XnumTurns'. -/
def xnumTurnsUptoCard : Claim7 := { stood := { row := xnumTurnsUptoRow, standIns := [], harness := (true, "5166f39872bf689d80108ad159f1eb0e1585a5a8b116fd022350c43295f2f7cb"), looks := false }, kinds := [], alts := [], laidByText := true, laidKinds := [.data, .data, .data, .data, .pinned], laidTests := true, laidLooks := .later }
def XnumTurnsUptoCardSaid : Prop := Claim7.holds Tryz.pinned (.plain (OpenSpec.upto xnumTurnsSpec)) xnumTurnsUptoCard
end Rows
end Go.Proofs.YtmaefnmjfkbplaaGreatDoor
