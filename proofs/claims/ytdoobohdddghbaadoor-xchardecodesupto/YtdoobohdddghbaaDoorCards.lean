/-
  DERIVED. GIVEN WITH THE SEED: THE CARDS: each row of YtdoobohdddghbaaDoorRows.lean that lists a variable, with what it lists TIED to the program's text (the seventh form; the later family's looks); each row that meets fmt, with fmt's text TOLD by the authors' own Lean function (tested against real Go, not proved from fmt's source: count such statements apart). THE CARD IS WHAT COUNTS. Prove the row's statement (the work); the ties are given (YtdoobohdddghbaaDoorTie.lean); close each card by the builder's one call (the guide's Derived/Test/ToyasCard.lean, 'card_holds'). Laid BY PROGRAM, IN A SANDBOX (cutbox-door.mjs). By AI agents, Wed Nov 11 2026. No macro, syntax, notation, axiom, sorry.
-/
import Derived.Test.YtdoobohdddghbaaDoorRows
import GoSem.ClaimSeven
namespace Go.Proofs.YtdoobohdddghbaaDoor
namespace Rows

/-- THE TIED CARD OF 'stencillaw01.XcharDecodes'. -/
def xcharDecodesCard : Claim7 := { stood := { row := xcharDecodesRow, standIns := [], harness := (true, "e3f2349fcd3a5d604c86672cf473bb60e1e7bd3fdb34952cb1f8a17d7bc073cb"), looks := false }, kinds := [], alts := [], laidByText := true, laidKinds := [.data, .pinned], laidTests := true, laidLooks := .later }
def XcharDecodesCardSaid : Prop := Claim7.holds Tryd.pinned (.plain (OpenSpec.ofChange xcharDecodesSpec)) xcharDecodesCard

/-- THE TIED CARD OF 'stencillaw01.XcharBack'. -/
def xcharBackCard : Claim7 := { stood := { row := xcharBackRow, standIns := [], harness := (true, "e3f2349fcd3a5d604c86672cf473bb60e1e7bd3fdb34952cb1f8a17d7bc073cb"), looks := false }, kinds := [], alts := [], laidByText := true, laidKinds := [.data, .pinned], laidTests := true, laidLooks := .later }
def XcharBackCardSaid : Prop := Claim7.holds Tryd.pinned (.plain (OpenSpec.ofChange xcharBackSpec)) xcharBackCard

/-- THE TIED CARD OF 'stencillaw01.XcharLines'. -/
def xcharLinesCard : Claim7 := { stood := { row := xcharLinesRow, standIns := [], harness := (true, "e3f2349fcd3a5d604c86672cf473bb60e1e7bd3fdb34952cb1f8a17d7bc073cb"), looks := false }, kinds := [], alts := [], laidByText := true, laidKinds := [.data, .pinned], laidTests := true, laidLooks := .later }
def XcharLinesCardSaid : Prop := Claim7.holds Tryd.pinned (.plain (OpenSpec.ofChange xcharLinesSpec)) xcharLinesCard

/-- THE SECOND FORM's CARD OF 'stencillaw01.XcharDecodes'. -/
def xcharDecodesUptoCard : Claim7 := { stood := { row := xcharDecodesUptoRow, standIns := [], harness := (true, "e3f2349fcd3a5d604c86672cf473bb60e1e7bd3fdb34952cb1f8a17d7bc073cb"), looks := false }, kinds := [], alts := [], laidByText := true, laidKinds := [.data, .pinned], laidTests := true, laidLooks := .later }
def XcharDecodesUptoCardSaid : Prop := Claim7.holds Tryd.pinned (.plain (OpenSpec.upto xcharDecodesSpec)) xcharDecodesUptoCard

/-- THE SECOND FORM's CARD OF 'stencillaw01.XcharBack'. -/
def xcharBackUptoCard : Claim7 := { stood := { row := xcharBackUptoRow, standIns := [], harness := (true, "e3f2349fcd3a5d604c86672cf473bb60e1e7bd3fdb34952cb1f8a17d7bc073cb"), looks := false }, kinds := [], alts := [], laidByText := true, laidKinds := [.data, .pinned], laidTests := true, laidLooks := .later }
def XcharBackUptoCardSaid : Prop := Claim7.holds Tryd.pinned (.plain (OpenSpec.upto xcharBackSpec)) xcharBackUptoCard

/-- THE SECOND FORM's CARD OF 'stencillaw01.XcharLines'. -/
def xcharLinesUptoCard : Claim7 := { stood := { row := xcharLinesUptoRow, standIns := [], harness := (true, "e3f2349fcd3a5d604c86672cf473bb60e1e7bd3fdb34952cb1f8a17d7bc073cb"), looks := false }, kinds := [], alts := [], laidByText := true, laidKinds := [.data, .pinned], laidTests := true, laidLooks := .later }
def XcharLinesUptoCardSaid : Prop := Claim7.holds Tryd.pinned (.plain (OpenSpec.upto xcharLinesSpec)) xcharLinesUptoCard
end Rows
end Go.Proofs.YtdoobohdddghbaaDoor
