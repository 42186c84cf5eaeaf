/-
  DERIVED. GIVEN WITH THE SEED: THE CARDS: each row of YtigbaoadnonjfaaGreatDoorRows.lean that lists a variable, with what it lists TIED to the program's text (the seventh form; the later family's looks); each row that meets fmt, with fmt's text TOLD by the authors' own Lean function (tested against real Go, not proved from fmt's source: count such statements apart). THE CARD IS WHAT COUNTS. Prove the row's statement (the work); the ties are given (YtigbaoadnonjfaaGreatDoorTie.lean); close each card by the builder's one call (the guide's Derived/Test/ToyasCard.lean, 'card_holds'). Laid BY PROGRAM, IN A SANDBOX (cutbox-door.mjs). By AI agents, Wed Nov 11 2026. No macro, syntax, notation, axiom, sorry.
-/
import Derived.Test.YtigbaoadnonjfaaGreatDoorRows
import GoSem.ClaimSeven
namespace Go.Proofs.YtigbaoadnonjfaaGreatDoor
namespace Rows

/-- THE TIED CARD OF 'stencillaw02.XnumChains'. -/
def xnumChainsCard : Claim7 := { stood := { row := xnumChainsRow, standIns := [], harness := (true, "6ee6ce57eeaccbe6d7d8b72805b570b57672fd427dbd21395a9f70be76914fea"), looks := false }, kinds := [], alts := [], laidByText := true, laidKinds := [.data, .data, .data, .data, .pinned], laidTests := true, laidLooks := .later }
def XnumChainsCardSaid : Prop := Claim7.holds Tryz.pinned (.plain (OpenSpec.ofChange xnumChainsSpec)) xnumChainsCard

/-- THE TIED CARD OF 'stencillaw02.XnumOrders'. -/
def xnumOrdersCard : Claim7 := { stood := { row := xnumOrdersRow, standIns := [], harness := (true, "6ee6ce57eeaccbe6d7d8b72805b570b57672fd427dbd21395a9f70be76914fea"), looks := false }, kinds := [], alts := [], laidByText := true, laidKinds := [.data, .data, .data, .data, .pinned], laidTests := true, laidLooks := .later }
def XnumOrdersCardSaid : Prop := Claim7.holds Tryz.pinned (.plain (OpenSpec.ofChange xnumOrdersSpec)) xnumOrdersCard

/-- THE TIED CARD OF 'stencillaw02.XnumNear'. -/
def xnumNearCard : Claim7 := { stood := { row := xnumNearRow, standIns := [], harness := (true, "6ee6ce57eeaccbe6d7d8b72805b570b57672fd427dbd21395a9f70be76914fea"), looks := false }, kinds := [], alts := [], laidByText := true, laidKinds := [.data, .data, .data, .data, .pinned], laidTests := true, laidLooks := .later }
def XnumNearCardSaid : Prop := Claim7.holds Tryz.pinned (.plain (OpenSpec.ofChange xnumNearSpec)) xnumNearCard

/-- THE TIED CARD OF 'stencillaw02.XnumWhole'. -/
def xnumWholeCard : Claim7 := { stood := { row := xnumWholeRow, standIns := [], harness := (true, "6ee6ce57eeaccbe6d7d8b72805b570b57672fd427dbd21395a9f70be76914fea"), looks := false }, kinds := [], alts := [], laidByText := true, laidKinds := [.data, .data, .data, .data, .pinned], laidTests := true, laidLooks := .later }
def XnumWholeCardSaid : Prop := Claim7.holds Tryz.pinned (.plain (OpenSpec.ofChange xnumWholeSpec)) xnumWholeCard

/-- THE TIED CARD OF 'stencillaw02.XnumRests'. -/
def xnumRestsCard : Claim7 := { stood := { row := xnumRestsRow, standIns := [], harness := (true, "6ee6ce57eeaccbe6d7d8b72805b570b57672fd427dbd21395a9f70be76914fea"), looks := false }, kinds := [], alts := [], laidByText := true, laidKinds := [.data, .data, .data, .data, .pinned], laidTests := true, laidLooks := .later }
def XnumRestsCardSaid : Prop := Claim7.holds Tryz.pinned (.plain (OpenSpec.ofChange xnumRestsSpec)) xnumRestsCard

/-- THE SECOND FORM's CARD OF 'stencillaw02.XnumChains'. -/
def xnumChainsUptoCard : Claim7 := { stood := { row := xnumChainsUptoRow, standIns := [], harness := (true, "6ee6ce57eeaccbe6d7d8b72805b570b57672fd427dbd21395a9f70be76914fea"), looks := false }, kinds := [], alts := [], laidByText := true, laidKinds := [.data, .data, .data, .data, .pinned], laidTests := true, laidLooks := .later }
def XnumChainsUptoCardSaid : Prop := Claim7.holds Tryz.pinned (.plain (OpenSpec.upto xnumChainsSpec)) xnumChainsUptoCard

/-- THE SECOND FORM's CARD OF 'stencillaw02.XnumOrders'. -/
def xnumOrdersUptoCard : Claim7 := { stood := { row := xnumOrdersUptoRow, standIns := [], harness := (true, "6ee6ce57eeaccbe6d7d8b72805b570b57672fd427dbd21395a9f70be76914fea"), looks := false }, kinds := [], alts := [], laidByText := true, laidKinds := [.data, .data, .data, .data, .pinned], laidTests := true, laidLooks := .later }
def XnumOrdersUptoCardSaid : Prop := Claim7.holds Tryz.pinned (.plain (OpenSpec.upto xnumOrdersSpec)) xnumOrdersUptoCard

/-- THE SECOND FORM's CARD OF 'stencillaw02.XnumNear'. -/
def xnumNearUptoCard : Claim7 := { stood := { row := xnumNearUptoRow, standIns := [], harness := (true, "6ee6ce57eeaccbe6d7d8b72805b570b57672fd427dbd21395a9f70be76914fea"), looks := false }, kinds := [], alts := [], laidByText := true, laidKinds := [.data, .data, .data, .data, .pinned], laidTests := true, laidLooks := .later }
def XnumNearUptoCardSaid : Prop := Claim7.holds Tryz.pinned (.plain (OpenSpec.upto xnumNearSpec)) xnumNearUptoCard

/-- THE SECOND FORM's CARD OF 'stencillaw02.XnumWhole'. -/
def xnumWholeUptoCard : Claim7 := { stood := { row := xnumWholeUptoRow, standIns := [], harness := (true, "6ee6ce57eeaccbe6d7d8b72805b570b57672fd427dbd21395a9f70be76914fea"), looks := false }, kinds := [], alts := [], laidByText := true, laidKinds := [.data, .data, .data, .data, .pinned], laidTests := true, laidLooks := .later }
def XnumWholeUptoCardSaid : Prop := Claim7.holds Tryz.pinned (.plain (OpenSpec.upto xnumWholeSpec)) xnumWholeUptoCard

/-- THE SECOND FORM's CARD OF 'stencillaw02.XnumRests'. -/
def xnumRestsUptoCard : Claim7 := { stood := { row := xnumRestsUptoRow, standIns := [], harness := (true, "6ee6ce57eeaccbe6d7d8b72805b570b57672fd427dbd21395a9f70be76914fea"), looks := false }, kinds := [], alts := [], laidByText := true, laidKinds := [.data, .data, .data, .data, .pinned], laidTests := true, laidLooks := .later }
def XnumRestsUptoCardSaid : Prop := Claim7.holds Tryz.pinned (.plain (OpenSpec.upto xnumRestsSpec)) xnumRestsUptoCard
end Rows
end Go.Proofs.YtigbaoadnonjfaaGreatDoor
