/-
  DERIVED. GIVEN WITH THE SEED: THE CARDS: each row of YtjjggncbhenffaaGreatDoorRows.lean that lists a variable, with what it lists TIED to the program's text (the seventh form; the later family's looks); each row that meets fmt, with fmt's text TOLD by the authors' own Lean function (tested against real Go, not proved from fmt's source: count such statements apart). THE CARD IS WHAT COUNTS. Prove the row's statement (the work); the ties are given (YtjjggncbhenffaaGreatDoorTie.lean); close each card by the builder's one call (the guide's Derived/Test/ToyasCard.lean, 'card_holds'). Laid BY PROGRAM, IN A SANDBOX (cutbox-door.mjs). By AI agents, Wed Nov 11 2026. No macro, syntax, notation, axiom, sorry.
-/
import Derived.Test.YtjjggncbhenffaaGreatDoorRows
import GoSem.ClaimSeven
namespace Go.Proofs.YtjjggncbhenffaaGreatDoor
namespace Rows

/-- THE TIED CARD OF 'stencillaw04.XdmBuilds'. -/
def xdmBuildsCard : Claim7 := { stood := { row := xdmBuildsRow, standIns := [], harness := (true, "3ad135cb380b772093866e6cd1178490def68e90a1ae7a7e91eeeaf7c03e3455"), looks := false }, kinds := [], alts := [], laidByText := true, laidKinds := [.data, .data, .data, .pinned, .pinned], laidTests := true, laidLooks := .later }
def XdmBuildsCardSaid : Prop := Claim7.holds Tryz.pinned (.plain (OpenSpec.ofChange xdmBuildsSpec)) xdmBuildsCard

/-- THE TIED CARD OF 'stencillaw04.XdmOrder'. -/
def xdmOrderCard : Claim7 := { stood := { row := xdmOrderRow, standIns := [], harness := (true, "3ad135cb380b772093866e6cd1178490def68e90a1ae7a7e91eeeaf7c03e3455"), looks := false }, kinds := [], alts := [], laidByText := true, laidKinds := [.data, .data, .data, .pinned, .pinned], laidTests := true, laidLooks := .later }
def XdmOrderCardSaid : Prop := Claim7.holds Tryz.pinned (.plain (OpenSpec.ofChange xdmOrderSpec)) xdmOrderCard

/-- THE TIED CARD OF 'stencillaw04.XdmScopes'. -/
def xdmScopesCard : Claim7 := { stood := { row := xdmScopesRow, standIns := [], harness := (true, "3ad135cb380b772093866e6cd1178490def68e90a1ae7a7e91eeeaf7c03e3455"), looks := false }, kinds := [], alts := [], laidByText := true, laidKinds := [.data, .data, .data, .pinned, .pinned], laidTests := true, laidLooks := .later }
def XdmScopesCardSaid : Prop := Claim7.holds Tryz.pinned (.plain (OpenSpec.ofChange xdmScopesSpec)) xdmScopesCard

/-- THE TIED CARD OF 'stencillaw04.XdmStrings'. -/
def xdmStringsCard : Claim7 := { stood := { row := xdmStringsRow, standIns := [], harness := (true, "3ad135cb380b772093866e6cd1178490def68e90a1ae7a7e91eeeaf7c03e3455"), looks := false }, kinds := [], alts := [], laidByText := true, laidKinds := [.data, .data, .data, .pinned, .pinned], laidTests := true, laidLooks := .later }
def XdmStringsCardSaid : Prop := Claim7.holds Tryz.pinned (.plain (OpenSpec.ofChange xdmStringsSpec)) xdmStringsCard

/-- THE TIED CARD OF 'stencillaw04.XdmPrefixes'. -/
def xdmPrefixesCard : Claim7 := { stood := { row := xdmPrefixesRow, standIns := [], harness := (true, "3ad135cb380b772093866e6cd1178490def68e90a1ae7a7e91eeeaf7c03e3455"), looks := false }, kinds := [], alts := [], laidByText := true, laidKinds := [.data, .data, .data, .pinned, .pinned], laidTests := true, laidLooks := .later }
def XdmPrefixesCardSaid : Prop := Claim7.holds Tryz.pinned (.plain (OpenSpec.ofChange xdmPrefixesSpec)) xdmPrefixesCard

/-- THE TIED CARD OF 'stencillaw04.XdmNone'. -/
def xdmNoneCard : Claim7 := { stood := { row := xdmNoneRow, standIns := [], harness := (true, "3ad135cb380b772093866e6cd1178490def68e90a1ae7a7e91eeeaf7c03e3455"), looks := false }, kinds := [], alts := [], laidByText := true, laidKinds := [.data, .data, .data, .pinned, .pinned], laidTests := true, laidLooks := .later }
def XdmNoneCardSaid : Prop := Claim7.holds Tryz.pinned (.plain (OpenSpec.ofChange xdmNoneSpec)) xdmNoneCard

/-- THE SECOND FORM's CARD OF 'stencillaw04.XdmBuilds'. -/
def xdmBuildsUptoCard : Claim7 := { stood := { row := xdmBuildsUptoRow, standIns := [], harness := (true, "3ad135cb380b772093866e6cd1178490def68e90a1ae7a7e91eeeaf7c03e3455"), looks := false }, kinds := [], alts := [], laidByText := true, laidKinds := [.data, .data, .data, .pinned, .pinned], laidTests := true, laidLooks := .later }
def XdmBuildsUptoCardSaid : Prop := Claim7.holds Tryz.pinned (.plain (OpenSpec.upto xdmBuildsSpec)) xdmBuildsUptoCard

/-- THE SECOND FORM's CARD OF 'stencillaw04.XdmOrder'. -/
def xdmOrderUptoCard : Claim7 := { stood := { row := xdmOrderUptoRow, standIns := [], harness := (true, "3ad135cb380b772093866e6cd1178490def68e90a1ae7a7e91eeeaf7c03e3455"), looks := false }, kinds := [], alts := [], laidByText := true, laidKinds := [.data, .data, .data, .pinned, .pinned], laidTests := true, laidLooks := .later }
def XdmOrderUptoCardSaid : Prop := Claim7.holds Tryz.pinned (.plain (OpenSpec.upto xdmOrderSpec)) xdmOrderUptoCard

/-- THE SECOND FORM's CARD OF 'stencillaw04.XdmScopes'. -/
def xdmScopesUptoCard : Claim7 := { stood := { row := xdmScopesUptoRow, standIns := [], harness := (true, "3ad135cb380b772093866e6cd1178490def68e90a1ae7a7e91eeeaf7c03e3455"), looks := false }, kinds := [], alts := [], laidByText := true, laidKinds := [.data, .data, .data, .pinned, .pinned], laidTests := true, laidLooks := .later }
def XdmScopesUptoCardSaid : Prop := Claim7.holds Tryz.pinned (.plain (OpenSpec.upto xdmScopesSpec)) xdmScopesUptoCard

/-- THE SECOND FORM's CARD OF 'stencillaw04.XdmStrings'. -/
def xdmStringsUptoCard : Claim7 := { stood := { row := xdmStringsUptoRow, standIns := [], harness := (true, "3ad135cb380b772093866e6cd1178490def68e90a1ae7a7e91eeeaf7c03e3455"), looks := false }, kinds := [], alts := [], laidByText := true, laidKinds := [.data, .data, .data, .pinned, .pinned], laidTests := true, laidLooks := .later }
def XdmStringsUptoCardSaid : Prop := Claim7.holds Tryz.pinned (.plain (OpenSpec.upto xdmStringsSpec)) xdmStringsUptoCard

/-- THE SECOND FORM's CARD OF 'stencillaw04.XdmPrefixes'. -/
def xdmPrefixesUptoCard : Claim7 := { stood := { row := xdmPrefixesUptoRow, standIns := [], harness := (true, "3ad135cb380b772093866e6cd1178490def68e90a1ae7a7e91eeeaf7c03e3455"), looks := false }, kinds := [], alts := [], laidByText := true, laidKinds := [.data, .data, .data, .pinned, .pinned], laidTests := true, laidLooks := .later }
def XdmPrefixesUptoCardSaid : Prop := Claim7.holds Tryz.pinned (.plain (OpenSpec.upto xdmPrefixesSpec)) xdmPrefixesUptoCard

/-- THE SECOND FORM's CARD OF 'stencillaw04.XdmNone'. -/
def xdmNoneUptoCard : Claim7 := { stood := { row := xdmNoneUptoRow, standIns := [], harness := (true, "3ad135cb380b772093866e6cd1178490def68e90a1ae7a7e91eeeaf7c03e3455"), looks := false }, kinds := [], alts := [], laidByText := true, laidKinds := [.data, .data, .data, .pinned, .pinned], laidTests := true, laidLooks := .later }
def XdmNoneUptoCardSaid : Prop := Claim7.holds Tryz.pinned (.plain (OpenSpec.upto xdmNoneSpec)) xdmNoneUptoCard
end Rows
end Go.Proofs.YtjjggncbhenffaaGreatDoor
