/-
  DERIVED. GIVEN WITH THE SEED: THE CARDS: each row of YtapehgheaododabDoorRows.lean that lists a variable, with what it lists TIED to the program's text (the seventh form; the later family's looks); each row that meets fmt, with fmt's text TOLD by the authors' own Lean function (tested against real Go, not proved from fmt's source: count such statements apart). THE CARD IS WHAT COUNTS. Prove the row's statement (the work); the ties are given (YtapehgheaododabDoorTie.lean); close each card by the builder's one call (the guide's Derived/Test/ToyasCard.lean, 'card_holds'). Laid BY PROGRAM, IN A SANDBOX (cutbox-door.mjs). By AI agents, Wed Nov 11 2026. No macro, syntax, notation, axiom, sorry.
-/
import Derived.Test.YtapehgheaododabDoorRows
import GoSem.ClaimSeven
namespace Go.Proofs.YtapehgheaododabDoor
namespace Rows

/-- THE TIED CARD OF 'stencillaw01.XcharCuts'. -/
def xcharCutsCard : Claim7 := { stood := { row := xcharCutsRow, standIns := [], harness := (true, "0bcf3644af45e73feef3db0b6c5fe3b9259de165f47b890127e8b34e38fdf7b5"), looks := false }, kinds := [], alts := [], laidByText := true, laidKinds := [.data, .pinned], laidTests := true, laidLooks := .later }
def XcharCutsCardSaid : Prop := Claim7.holds Tryd.pinned (.plain (OpenSpec.ofChange xcharCutsSpec)) xcharCutsCard

/-- THE TIED CARD OF 'stencillaw01.XcharParts'. -/
def xcharPartsCard : Claim7 := { stood := { row := xcharPartsRow, standIns := [], harness := (true, "0bcf3644af45e73feef3db0b6c5fe3b9259de165f47b890127e8b34e38fdf7b5"), looks := false }, kinds := [], alts := [], laidByText := true, laidKinds := [.data, .pinned], laidTests := true, laidLooks := .later }
def XcharPartsCardSaid : Prop := Claim7.holds Tryd.pinned (.plain (OpenSpec.ofChange xcharPartsSpec)) xcharPartsCard

/-- THE TIED CARD OF 'stencillaw01.XcharTrims'. -/
def xcharTrimsCard : Claim7 := { stood := { row := xcharTrimsRow, standIns := [], harness := (true, "0bcf3644af45e73feef3db0b6c5fe3b9259de165f47b890127e8b34e38fdf7b5"), looks := false }, kinds := [], alts := [], laidByText := true, laidKinds := [.data, .pinned], laidTests := true, laidLooks := .later }
def XcharTrimsCardSaid : Prop := Claim7.holds Tryd.pinned (.plain (OpenSpec.ofChange xcharTrimsSpec)) xcharTrimsCard

/-- THE TIED CARD OF 'stencillaw01.XcharLines'. -/
def xcharLinesCard : Claim7 := { stood := { row := xcharLinesRow, standIns := [], harness := (true, "0bcf3644af45e73feef3db0b6c5fe3b9259de165f47b890127e8b34e38fdf7b5"), looks := false }, kinds := [], alts := [], laidByText := true, laidKinds := [.data, .pinned], laidTests := true, laidLooks := .later }
def XcharLinesCardSaid : Prop := Claim7.holds Tryd.pinned (.plain (OpenSpec.ofChange xcharLinesSpec)) xcharLinesCard

/-- THE SECOND FORM's CARD OF 'stencillaw01.XcharCuts'. -/
def xcharCutsUptoCard : Claim7 := { stood := { row := xcharCutsUptoRow, standIns := [], harness := (true, "0bcf3644af45e73feef3db0b6c5fe3b9259de165f47b890127e8b34e38fdf7b5"), looks := false }, kinds := [], alts := [], laidByText := true, laidKinds := [.data, .pinned], laidTests := true, laidLooks := .later }
def XcharCutsUptoCardSaid : Prop := Claim7.holds Tryd.pinned (.plain (OpenSpec.upto xcharCutsSpec)) xcharCutsUptoCard

/-- THE SECOND FORM's CARD OF 'stencillaw01.XcharParts'. -/
def xcharPartsUptoCard : Claim7 := { stood := { row := xcharPartsUptoRow, standIns := [], harness := (true, "0bcf3644af45e73feef3db0b6c5fe3b9259de165f47b890127e8b34e38fdf7b5"), looks := false }, kinds := [], alts := [], laidByText := true, laidKinds := [.data, .pinned], laidTests := true, laidLooks := .later }
def XcharPartsUptoCardSaid : Prop := Claim7.holds Tryd.pinned (.plain (OpenSpec.upto xcharPartsSpec)) xcharPartsUptoCard

/-- THE SECOND FORM's CARD OF 'stencillaw01.XcharTrims'. -/
def xcharTrimsUptoCard : Claim7 := { stood := { row := xcharTrimsUptoRow, standIns := [], harness := (true, "0bcf3644af45e73feef3db0b6c5fe3b9259de165f47b890127e8b34e38fdf7b5"), looks := false }, kinds := [], alts := [], laidByText := true, laidKinds := [.data, .pinned], laidTests := true, laidLooks := .later }
def XcharTrimsUptoCardSaid : Prop := Claim7.holds Tryd.pinned (.plain (OpenSpec.upto xcharTrimsSpec)) xcharTrimsUptoCard

/-- THE SECOND FORM's CARD OF 'stencillaw01.XcharLines'. -/
def xcharLinesUptoCard : Claim7 := { stood := { row := xcharLinesUptoRow, standIns := [], harness := (true, "0bcf3644af45e73feef3db0b6c5fe3b9259de165f47b890127e8b34e38fdf7b5"), looks := false }, kinds := [], alts := [], laidByText := true, laidKinds := [.data, .pinned], laidTests := true, laidLooks := .later }
def XcharLinesUptoCardSaid : Prop := Claim7.holds Tryd.pinned (.plain (OpenSpec.upto xcharLinesSpec)) xcharLinesUptoCard
end Rows
end Go.Proofs.YtapehgheaododabDoor
