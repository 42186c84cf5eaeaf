/-
  DERIVED. GIVEN WITH THE SEED: THE CARDS: each row of YtdlahkbpjodgmaaGreatDoorRows.lean that lists a variable, with what it lists TIED to the program's text (the seventh form; the later family's looks); each row that meets fmt, with fmt's text TOLD by the authors' own Lean function (tested against real Go, not proved from fmt's source: count such statements apart). THE CARD IS WHAT COUNTS. Prove the row's statement (the work); the ties are given (YtdlahkbpjodgmaaGreatDoorTie.lean); close each card by the builder's one call (the guide's Derived/Test/ToyasCard.lean, 'card_holds'). Laid BY PROGRAM, IN A SANDBOX (cutbox-door.mjs). By AI agents, Wed Nov 11 2026. No macro, syntax, notation, axiom, sorry.
-/
import Derived.Test.YtdlahkbpjodgmaaGreatDoorRows
import GoSem.ClaimSeven
namespace Go.Proofs.YtdlahkbpjodgmaaGreatDoor
namespace Rows

/-- THE TIED CARD OF 'stencillaw03.XmlscanWrites'. -/
def xmlscanWritesCard : Claim7 := { stood := { row := xmlscanWritesRow, standIns := [], harness := (true, "210073bee3c43284f00ef94d8b6f01f10b0707fcbe90f2f3d209f469e393f272"), looks := false }, kinds := [], alts := [], laidByText := true, laidKinds := [.data, .data, .data, .pinned, .pinned], laidTests := true, laidLooks := .later }
def XmlscanWritesCardSaid : Prop := Claim7.holds Tryz.pinned (.plain (OpenSpec.ofChange xmlscanWritesSpec)) xmlscanWritesCard

/-- THE TIED CARD OF 'stencillaw03.XmlscanBack'. -/
def xmlscanBackCard : Claim7 := { stood := { row := xmlscanBackRow, standIns := [], harness := (true, "210073bee3c43284f00ef94d8b6f01f10b0707fcbe90f2f3d209f469e393f272"), looks := false }, kinds := [], alts := [], laidByText := true, laidKinds := [.data, .data, .data, .pinned, .pinned], laidTests := true, laidLooks := .later }
def XmlscanBackCardSaid : Prop := Claim7.holds Tryz.pinned (.plain (OpenSpec.ofChange xmlscanBackSpec)) xmlscanBackCard

/-- THE TIED CARD OF 'stencillaw03.XmlscanAgain'. -/
def xmlscanAgainCard : Claim7 := { stood := { row := xmlscanAgainRow, standIns := [], harness := (true, "210073bee3c43284f00ef94d8b6f01f10b0707fcbe90f2f3d209f469e393f272"), looks := false }, kinds := [], alts := [], laidByText := true, laidKinds := [.data, .data, .data, .pinned, .pinned], laidTests := true, laidLooks := .later }
def XmlscanAgainCardSaid : Prop := Claim7.holds Tryz.pinned (.plain (OpenSpec.ofChange xmlscanAgainSpec)) xmlscanAgainCard

/-- THE TIED CARD OF 'stencillaw03.XmlscanCuts'. -/
def xmlscanCutsCard : Claim7 := { stood := { row := xmlscanCutsRow, standIns := [], harness := (true, "210073bee3c43284f00ef94d8b6f01f10b0707fcbe90f2f3d209f469e393f272"), looks := false }, kinds := [], alts := [], laidByText := true, laidKinds := [.data, .data, .data, .pinned, .pinned], laidTests := true, laidLooks := .later }
def XmlscanCutsCardSaid : Prop := Claim7.holds Tryz.pinned (.plain (OpenSpec.ofChange xmlscanCutsSpec)) xmlscanCutsCard

/-- THE TIED CARD OF 'stencillaw03.XmlscanTexts'. -/
def xmlscanTextsCard : Claim7 := { stood := { row := xmlscanTextsRow, standIns := [], harness := (true, "210073bee3c43284f00ef94d8b6f01f10b0707fcbe90f2f3d209f469e393f272"), looks := false }, kinds := [], alts := [], laidByText := true, laidKinds := [.data, .data, .data, .pinned, .pinned], laidTests := true, laidLooks := .later }
def XmlscanTextsCardSaid : Prop := Claim7.holds Tryz.pinned (.plain (OpenSpec.ofChange xmlscanTextsSpec)) xmlscanTextsCard

/-- THE TIED CARD OF 'stencillaw03.XmlscanEntities'. -/
def xmlscanEntitiesCard : Claim7 := { stood := { row := xmlscanEntitiesRow, standIns := [], harness := (true, "210073bee3c43284f00ef94d8b6f01f10b0707fcbe90f2f3d209f469e393f272"), looks := false }, kinds := [], alts := [], laidByText := true, laidKinds := [.data, .data, .data, .pinned, .pinned], laidTests := true, laidLooks := .later }
def XmlscanEntitiesCardSaid : Prop := Claim7.holds Tryz.pinned (.plain (OpenSpec.ofChange xmlscanEntitiesSpec)) xmlscanEntitiesCard

/-- THE SECOND FORM's CARD OF 'stencillaw03.XmlscanWrites'. -/
def xmlscanWritesUptoCard : Claim7 := { stood := { row := xmlscanWritesUptoRow, standIns := [], harness := (true, "210073bee3c43284f00ef94d8b6f01f10b0707fcbe90f2f3d209f469e393f272"), looks := false }, kinds := [], alts := [], laidByText := true, laidKinds := [.data, .data, .data, .pinned, .pinned], laidTests := true, laidLooks := .later }
def XmlscanWritesUptoCardSaid : Prop := Claim7.holds Tryz.pinned (.plain (OpenSpec.upto xmlscanWritesSpec)) xmlscanWritesUptoCard

/-- THE SECOND FORM's CARD OF 'stencillaw03.XmlscanBack'. -/
def xmlscanBackUptoCard : Claim7 := { stood := { row := xmlscanBackUptoRow, standIns := [], harness := (true, "210073bee3c43284f00ef94d8b6f01f10b0707fcbe90f2f3d209f469e393f272"), looks := false }, kinds := [], alts := [], laidByText := true, laidKinds := [.data, .data, .data, .pinned, .pinned], laidTests := true, laidLooks := .later }
def XmlscanBackUptoCardSaid : Prop := Claim7.holds Tryz.pinned (.plain (OpenSpec.upto xmlscanBackSpec)) xmlscanBackUptoCard

/-- THE SECOND FORM's CARD OF 'stencillaw03.XmlscanAgain'. -/
def xmlscanAgainUptoCard : Claim7 := { stood := { row := xmlscanAgainUptoRow, standIns := [], harness := (true, "210073bee3c43284f00ef94d8b6f01f10b0707fcbe90f2f3d209f469e393f272"), looks := false }, kinds := [], alts := [], laidByText := true, laidKinds := [.data, .data, .data, .pinned, .pinned], laidTests := true, laidLooks := .later }
def XmlscanAgainUptoCardSaid : Prop := Claim7.holds Tryz.pinned (.plain (OpenSpec.upto xmlscanAgainSpec)) xmlscanAgainUptoCard

/-- THE SECOND FORM's CARD OF 'stencillaw03.XmlscanCuts'. -/
def xmlscanCutsUptoCard : Claim7 := { stood := { row := xmlscanCutsUptoRow, standIns := [], harness := (true, "210073bee3c43284f00ef94d8b6f01f10b0707fcbe90f2f3d209f469e393f272"), looks := false }, kinds := [], alts := [], laidByText := true, laidKinds := [.data, .data, .data, .pinned, .pinned], laidTests := true, laidLooks := .later }
def XmlscanCutsUptoCardSaid : Prop := Claim7.holds Tryz.pinned (.plain (OpenSpec.upto xmlscanCutsSpec)) xmlscanCutsUptoCard

/-- THE SECOND FORM's CARD OF 'stencillaw03.XmlscanTexts'. -/
def xmlscanTextsUptoCard : Claim7 := { stood := { row := xmlscanTextsUptoRow, standIns := [], harness := (true, "210073bee3c43284f00ef94d8b6f01f10b0707fcbe90f2f3d209f469e393f272"), looks := false }, kinds := [], alts := [], laidByText := true, laidKinds := [.data, .data, .data, .pinned, .pinned], laidTests := true, laidLooks := .later }
def XmlscanTextsUptoCardSaid : Prop := Claim7.holds Tryz.pinned (.plain (OpenSpec.upto xmlscanTextsSpec)) xmlscanTextsUptoCard

/-- THE SECOND FORM's CARD OF 'stencillaw03.XmlscanEntities'. -/
def xmlscanEntitiesUptoCard : Claim7 := { stood := { row := xmlscanEntitiesUptoRow, standIns := [], harness := (true, "210073bee3c43284f00ef94d8b6f01f10b0707fcbe90f2f3d209f469e393f272"), looks := false }, kinds := [], alts := [], laidByText := true, laidKinds := [.data, .data, .data, .pinned, .pinned], laidTests := true, laidLooks := .later }
def XmlscanEntitiesUptoCardSaid : Prop := Claim7.holds Tryz.pinned (.plain (OpenSpec.upto xmlscanEntitiesSpec)) xmlscanEntitiesUptoCard
end Rows
end Go.Proofs.YtdlahkbpjodgmaaGreatDoor
