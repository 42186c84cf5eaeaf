/-
  DERIVED. GIVEN WITH THE SEED: THE CARDS: each row of YtefjfjieoiegnaaGreatDoorRows.lean that lists a variable, with what it lists TIED to the program's text (the seventh form; the later family's looks); each row that meets fmt, with fmt's text TOLD by the authors' own Lean function (tested against real Go, not proved from fmt's source: count such statements apart). THE CARD IS WHAT COUNTS. Prove the row's statement (the work); the ties are given (YtefjfjieoiegnaaGreatDoorTie.lean); close each card by the builder's one call (the guide's Derived/Test/ToyasCard.lean, 'card_holds'). Laid BY PROGRAM, IN A SANDBOX (cutbox-door.mjs). By AI agents, Wed Nov 11 2026. No macro, syntax, notation, axiom, sorry.
-/
import Derived.Test.YtefjfjieoiegnaaGreatDoorRows
import GoSem.ClaimSeven
namespace Go.Proofs.YtefjfjieoiegnaaGreatDoor
namespace Rows

/-- THE TIED CARD OF 'stencillaw10.XoutNames'. -/
def xoutNamesCard : Claim7 := { stood := { row := xoutNamesRow, standIns := [], harness := (true, "68d04b42983cf5256d844d09893628411dfc99dbc333297793ec70abec61cd66"), looks := false }, kinds := [], alts := [], laidByText := true, laidKinds := [.data, .data, .data, .pinned, .pinned], laidTests := true, laidLooks := .later }
def XoutNamesCardSaid : Prop := Claim7.holds Tryz.pinned (.plain (OpenSpec.ofChange xoutNamesSpec)) xoutNamesCard

/-- THE TIED CARD OF 'stencillaw10.XoutBack'. -/
def xoutBackCard : Claim7 := { stood := { row := xoutBackRow, standIns := [], harness := (true, "68d04b42983cf5256d844d09893628411dfc99dbc333297793ec70abec61cd66"), looks := false }, kinds := [], alts := [], laidByText := true, laidKinds := [.data, .data, .data, .pinned, .pinned], laidTests := true, laidLooks := .later }
def XoutBackCardSaid : Prop := Claim7.holds Tryz.pinned (.plain (OpenSpec.ofChange xoutBackSpec)) xoutBackCard

/-- THE TIED CARD OF 'stencillaw10.XoutWrapped'. -/
def xoutWrappedCard : Claim7 := { stood := { row := xoutWrappedRow, standIns := [], harness := (true, "68d04b42983cf5256d844d09893628411dfc99dbc333297793ec70abec61cd66"), looks := false }, kinds := [], alts := [], laidByText := true, laidKinds := [.data, .data, .data, .pinned, .pinned], laidTests := true, laidLooks := .later }
def XoutWrappedCardSaid : Prop := Claim7.holds Tryz.pinned (.plain (OpenSpec.ofChange xoutWrappedSpec)) xoutWrappedCard

/-- THE TIED CARD OF 'stencillaw10.XoutPlain'. -/
def xoutPlainCard : Claim7 := { stood := { row := xoutPlainRow, standIns := [], harness := (true, "68d04b42983cf5256d844d09893628411dfc99dbc333297793ec70abec61cd66"), looks := false }, kinds := [], alts := [], laidByText := true, laidKinds := [.data, .data, .data, .pinned, .pinned], laidTests := true, laidLooks := .later }
def XoutPlainCardSaid : Prop := Claim7.holds Tryz.pinned (.plain (OpenSpec.ofChange xoutPlainSpec)) xoutPlainCard

/-- THE TIED CARD OF 'stencillaw10.XoutJoins'. -/
def xoutJoinsCard : Claim7 := { stood := { row := xoutJoinsRow, standIns := [], harness := (true, "68d04b42983cf5256d844d09893628411dfc99dbc333297793ec70abec61cd66"), looks := false }, kinds := [], alts := [], laidByText := true, laidKinds := [.data, .data, .data, .pinned, .pinned], laidTests := true, laidLooks := .later }
def XoutJoinsCardSaid : Prop := Claim7.holds Tryz.pinned (.plain (OpenSpec.ofChange xoutJoinsSpec)) xoutJoinsCard

/-- THE TIED CARD OF 'stencillaw10.XoutHtml'. -/
def xoutHtmlCard : Claim7 := { stood := { row := xoutHtmlRow, standIns := [], harness := (true, "68d04b42983cf5256d844d09893628411dfc99dbc333297793ec70abec61cd66"), looks := false }, kinds := [], alts := [], laidByText := true, laidKinds := [.data, .data, .data, .pinned, .pinned], laidTests := true, laidLooks := .later }
def XoutHtmlCardSaid : Prop := Claim7.holds Tryz.pinned (.plain (OpenSpec.ofChange xoutHtmlSpec)) xoutHtmlCard

/-- THE SECOND FORM's CARD OF 'stencillaw10.XoutNames'. -/
def xoutNamesUptoCard : Claim7 := { stood := { row := xoutNamesUptoRow, standIns := [], harness := (true, "68d04b42983cf5256d844d09893628411dfc99dbc333297793ec70abec61cd66"), looks := false }, kinds := [], alts := [], laidByText := true, laidKinds := [.data, .data, .data, .pinned, .pinned], laidTests := true, laidLooks := .later }
def XoutNamesUptoCardSaid : Prop := Claim7.holds Tryz.pinned (.plain (OpenSpec.upto xoutNamesSpec)) xoutNamesUptoCard

/-- THE SECOND FORM's CARD OF 'stencillaw10.XoutBack'. -/
def xoutBackUptoCard : Claim7 := { stood := { row := xoutBackUptoRow, standIns := [], harness := (true, "68d04b42983cf5256d844d09893628411dfc99dbc333297793ec70abec61cd66"), looks := false }, kinds := [], alts := [], laidByText := true, laidKinds := [.data, .data, .data, .pinned, .pinned], laidTests := true, laidLooks := .later }
def XoutBackUptoCardSaid : Prop := Claim7.holds Tryz.pinned (.plain (OpenSpec.upto xoutBackSpec)) xoutBackUptoCard

/-- THE SECOND FORM's CARD OF 'stencillaw10.XoutWrapped'. -/
def xoutWrappedUptoCard : Claim7 := { stood := { row := xoutWrappedUptoRow, standIns := [], harness := (true, "68d04b42983cf5256d844d09893628411dfc99dbc333297793ec70abec61cd66"), looks := false }, kinds := [], alts := [], laidByText := true, laidKinds := [.data, .data, .data, .pinned, .pinned], laidTests := true, laidLooks := .later }
def XoutWrappedUptoCardSaid : Prop := Claim7.holds Tryz.pinned (.plain (OpenSpec.upto xoutWrappedSpec)) xoutWrappedUptoCard

/-- THE SECOND FORM's CARD OF 'stencillaw10.XoutPlain'. -/
def xoutPlainUptoCard : Claim7 := { stood := { row := xoutPlainUptoRow, standIns := [], harness := (true, "68d04b42983cf5256d844d09893628411dfc99dbc333297793ec70abec61cd66"), looks := false }, kinds := [], alts := [], laidByText := true, laidKinds := [.data, .data, .data, .pinned, .pinned], laidTests := true, laidLooks := .later }
def XoutPlainUptoCardSaid : Prop := Claim7.holds Tryz.pinned (.plain (OpenSpec.upto xoutPlainSpec)) xoutPlainUptoCard

/-- THE SECOND FORM's CARD OF 'stencillaw10.XoutJoins'. -/
def xoutJoinsUptoCard : Claim7 := { stood := { row := xoutJoinsUptoRow, standIns := [], harness := (true, "68d04b42983cf5256d844d09893628411dfc99dbc333297793ec70abec61cd66"), looks := false }, kinds := [], alts := [], laidByText := true, laidKinds := [.data, .data, .data, .pinned, .pinned], laidTests := true, laidLooks := .later }
def XoutJoinsUptoCardSaid : Prop := Claim7.holds Tryz.pinned (.plain (OpenSpec.upto xoutJoinsSpec)) xoutJoinsUptoCard

/-- THE SECOND FORM's CARD OF 'stencillaw10.XoutHtml'. -/
def xoutHtmlUptoCard : Claim7 := { stood := { row := xoutHtmlUptoRow, standIns := [], harness := (true, "68d04b42983cf5256d844d09893628411dfc99dbc333297793ec70abec61cd66"), looks := false }, kinds := [], alts := [], laidByText := true, laidKinds := [.data, .data, .data, .pinned, .pinned], laidTests := true, laidLooks := .later }
def XoutHtmlUptoCardSaid : Prop := Claim7.holds Tryz.pinned (.plain (OpenSpec.upto xoutHtmlSpec)) xoutHtmlUptoCard
end Rows
end Go.Proofs.YtefjfjieoiegnaaGreatDoor
