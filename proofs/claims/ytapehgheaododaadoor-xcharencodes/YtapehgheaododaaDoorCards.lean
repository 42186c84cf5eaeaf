/-
  DERIVED. GIVEN WITH THE SEED: THE CARDS: each row of YtapehgheaododaaDoorRows.lean that lists a variable, with what it lists TIED to the program's text (the seventh form; the later family's looks); each row that meets fmt, with fmt's text TOLD by the authors' own Lean function (tested against real Go, not proved from fmt's source: count such statements apart). THE CARD IS WHAT COUNTS. Prove the row's statement (the work); the ties are given (YtapehgheaododaaDoorTie.lean); close each card by the builder's one call (the guide's Derived/Test/ToyasCard.lean, 'card_holds'). Laid BY PROGRAM, IN A SANDBOX (cutbox-door.mjs). By AI agents, Wed Nov 11 2026. No macro, syntax, notation, axiom, sorry.
-/
import Derived.Test.YtapehgheaododaaDoorRows
import GoSem.ClaimSeven
namespace Go.Proofs.YtapehgheaododaaDoor
namespace Rows

/-- THE TIED CARD OF 'stencillaw01.XcharDecodes'. -/
def xcharDecodesCard : Claim7 := { stood := { row := xcharDecodesRow, standIns := [], harness := (true, "2cdbd26d64eeb3f571e2ab6e94e64bd6754b0c00e727c7abfe4935818ef65a0a"), looks := false }, kinds := [], alts := [], laidByText := true, laidKinds := [.data, .pinned], laidTests := true, laidLooks := .later }
def XcharDecodesCardSaid : Prop := Claim7.holds Tryd.pinned (.plain (OpenSpec.ofChange xcharDecodesSpec)) xcharDecodesCard

/-- THE TIED CARD OF 'stencillaw01.XcharEncodes'. -/
def xcharEncodesCard : Claim7 := { stood := { row := xcharEncodesRow, standIns := [], harness := (true, "2cdbd26d64eeb3f571e2ab6e94e64bd6754b0c00e727c7abfe4935818ef65a0a"), looks := false }, kinds := [], alts := [], laidByText := true, laidKinds := [.data, .pinned], laidTests := true, laidLooks := .later }
def XcharEncodesCardSaid : Prop := Claim7.holds Tryd.pinned (.plain (OpenSpec.ofChange xcharEncodesSpec)) xcharEncodesCard

/-- THE TIED CARD OF 'stencillaw01.XcharBack'. -/
def xcharBackCard : Claim7 := { stood := { row := xcharBackRow, standIns := [], harness := (true, "2cdbd26d64eeb3f571e2ab6e94e64bd6754b0c00e727c7abfe4935818ef65a0a"), looks := false }, kinds := [], alts := [], laidByText := true, laidKinds := [.data, .pinned], laidTests := true, laidLooks := .later }
def XcharBackCardSaid : Prop := Claim7.holds Tryd.pinned (.plain (OpenSpec.ofChange xcharBackSpec)) xcharBackCard

/-- THE TIED CARD OF 'stencillaw01.XcharKinds'. -/
def xcharKindsCard : Claim7 := { stood := { row := xcharKindsRow, standIns := [], harness := (true, "2cdbd26d64eeb3f571e2ab6e94e64bd6754b0c00e727c7abfe4935818ef65a0a"), looks := false }, kinds := [], alts := [], laidByText := true, laidKinds := [.data, .pinned], laidTests := true, laidLooks := .later }
def XcharKindsCardSaid : Prop := Claim7.holds Tryd.pinned (.plain (OpenSpec.ofChange xcharKindsSpec)) xcharKindsCard

/-- THE TIED CARD OF 'stencillaw01.XcharNames'. -/
def xcharNamesCard : Claim7 := { stood := { row := xcharNamesRow, standIns := [], harness := (true, "2cdbd26d64eeb3f571e2ab6e94e64bd6754b0c00e727c7abfe4935818ef65a0a"), looks := false }, kinds := [], alts := [], laidByText := true, laidKinds := [.data, .pinned], laidTests := true, laidLooks := .later }
def XcharNamesCardSaid : Prop := Claim7.holds Tryd.pinned (.plain (OpenSpec.ofChange xcharNamesSpec)) xcharNamesCard

/-- THE TIED CARD OF 'stencillaw01.XcharJoins'. -/
def xcharJoinsCard : Claim7 := { stood := { row := xcharJoinsRow, standIns := [], harness := (true, "2cdbd26d64eeb3f571e2ab6e94e64bd6754b0c00e727c7abfe4935818ef65a0a"), looks := false }, kinds := [], alts := [], laidByText := true, laidKinds := [.data, .pinned], laidTests := true, laidLooks := .later }
def XcharJoinsCardSaid : Prop := Claim7.holds Tryd.pinned (.plain (OpenSpec.ofChange xcharJoinsSpec)) xcharJoinsCard

/-- THE SECOND FORM's CARD OF 'stencillaw01.XcharDecodes'. -/
def xcharDecodesUptoCard : Claim7 := { stood := { row := xcharDecodesUptoRow, standIns := [], harness := (true, "2cdbd26d64eeb3f571e2ab6e94e64bd6754b0c00e727c7abfe4935818ef65a0a"), looks := false }, kinds := [], alts := [], laidByText := true, laidKinds := [.data, .pinned], laidTests := true, laidLooks := .later }
def XcharDecodesUptoCardSaid : Prop := Claim7.holds Tryd.pinned (.plain (OpenSpec.upto xcharDecodesSpec)) xcharDecodesUptoCard

/-- THE SECOND FORM's CARD OF 'stencillaw01.XcharEncodes'. -/
def xcharEncodesUptoCard : Claim7 := { stood := { row := xcharEncodesUptoRow, standIns := [], harness := (true, "2cdbd26d64eeb3f571e2ab6e94e64bd6754b0c00e727c7abfe4935818ef65a0a"), looks := false }, kinds := [], alts := [], laidByText := true, laidKinds := [.data, .pinned], laidTests := true, laidLooks := .later }
def XcharEncodesUptoCardSaid : Prop := Claim7.holds Tryd.pinned (.plain (OpenSpec.upto xcharEncodesSpec)) xcharEncodesUptoCard

/-- THE SECOND FORM's CARD OF 'stencillaw01.XcharBack'. -/
def xcharBackUptoCard : Claim7 := { stood := { row := xcharBackUptoRow, standIns := [], harness := (true, "2cdbd26d64eeb3f571e2ab6e94e64bd6754b0c00e727c7abfe4935818ef65a0a"), looks := false }, kinds := [], alts := [], laidByText := true, laidKinds := [.data, .pinned], laidTests := true, laidLooks := .later }
def XcharBackUptoCardSaid : Prop := Claim7.holds Tryd.pinned (.plain (OpenSpec.upto xcharBackSpec)) xcharBackUptoCard

/-- THE SECOND FORM's CARD OF 'stencillaw01.XcharKinds'. -/
def xcharKindsUptoCard : Claim7 := { stood := { row := xcharKindsUptoRow, standIns := [], harness := (true, "2cdbd26d64eeb3f571e2ab6e94e64bd6754b0c00e727c7abfe4935818ef65a0a"), looks := false }, kinds := [], alts := [], laidByText := true, laidKinds := [.data, .pinned], laidTests := true, laidLooks := .later }
def XcharKindsUptoCardSaid : Prop := Claim7.holds Tryd.pinned (.plain (OpenSpec.upto xcharKindsSpec)) xcharKindsUptoCard

/-- THE SECOND FORM's CARD OF 'stencillaw01.XcharNames'. -/
def xcharNamesUptoCard : Claim7 := { stood := { row := xcharNamesUptoRow, standIns := [], harness := (true, "2cdbd26d64eeb3f571e2ab6e94e64bd6754b0c00e727c7abfe4935818ef65a0a"), looks := false }, kinds := [], alts := [], laidByText := true, laidKinds := [.data, .pinned], laidTests := true, laidLooks := .later }
def XcharNamesUptoCardSaid : Prop := Claim7.holds Tryd.pinned (.plain (OpenSpec.upto xcharNamesSpec)) xcharNamesUptoCard

/-- THE SECOND FORM's CARD OF 'stencillaw01.XcharJoins'. -/
def xcharJoinsUptoCard : Claim7 := { stood := { row := xcharJoinsUptoRow, standIns := [], harness := (true, "2cdbd26d64eeb3f571e2ab6e94e64bd6754b0c00e727c7abfe4935818ef65a0a"), looks := false }, kinds := [], alts := [], laidByText := true, laidKinds := [.data, .pinned], laidTests := true, laidLooks := .later }
def XcharJoinsUptoCardSaid : Prop := Claim7.holds Tryd.pinned (.plain (OpenSpec.upto xcharJoinsSpec)) xcharJoinsUptoCard
end Rows
end Go.Proofs.YtapehgheaododaaDoor
