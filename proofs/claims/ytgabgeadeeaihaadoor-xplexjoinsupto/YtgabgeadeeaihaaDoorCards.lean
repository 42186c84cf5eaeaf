/-
  DERIVED. GIVEN WITH THE SEED: THE CARDS: each row of YtgabgeadeeaihaaDoorRows.lean that lists a variable, with what it lists TIED to the program's text (the seventh form; the later family's looks); each row that meets fmt, with fmt's text TOLD by the authors' own Lean function (tested against real Go, not proved from fmt's source: count such statements apart). THE CARD IS WHAT COUNTS. Prove the row's statement (the work); the ties are given (YtgabgeadeeaihaaDoorTie.lean); close each card by the builder's one call (the guide's Derived/Test/ToyasCard.lean, 'card_holds'). Laid BY PROGRAM, IN A SANDBOX (cutbox-door.mjs). By AI agents, Wed Nov 11 2026. No macro, syntax, notation, axiom, sorry.
-/
import Derived.Test.YtgabgeadeeaihaaDoorRows
import GoSem.ClaimSeven
namespace Go.Proofs.YtgabgeadeeaihaaDoor
namespace Rows

/-- THE TIED CARD OF 'stencillaw05.XplexJoins'. -/
def xplexJoinsCard : Claim7 := { stood := { row := xplexJoinsRow, standIns := [], harness := (true, "34ea4353be2d17449059d0eeba987624f496b18941db7d80b07e10ad58e44cf1"), looks := false }, kinds := [], alts := [], laidByText := true, laidKinds := [.data, .data, .pinned], laidTests := true, laidLooks := .later }
def XplexJoinsCardSaid : Prop := Claim7.holds Tryd.pinned (.plain (OpenSpec.ofChange xplexJoinsSpec)) xplexJoinsCard

/-- THE TIED CARD OF 'stencillaw05.XplexBack'. -/
def xplexBackCard : Claim7 := { stood := { row := xplexBackRow, standIns := [], harness := (true, "34ea4353be2d17449059d0eeba987624f496b18941db7d80b07e10ad58e44cf1"), looks := false }, kinds := [], alts := [], laidByText := true, laidKinds := [.data, .data, .pinned], laidTests := true, laidLooks := .later }
def XplexBackCardSaid : Prop := Claim7.holds Tryd.pinned (.plain (OpenSpec.ofChange xplexBackSpec)) xplexBackCard

/-- THE TIED CARD OF 'stencillaw05.XplexBlanks'. -/
def xplexBlanksCard : Claim7 := { stood := { row := xplexBlanksRow, standIns := [], harness := (true, "34ea4353be2d17449059d0eeba987624f496b18941db7d80b07e10ad58e44cf1"), looks := false }, kinds := [], alts := [], laidByText := true, laidKinds := [.data, .data, .pinned], laidTests := true, laidLooks := .later }
def XplexBlanksCardSaid : Prop := Claim7.holds Tryd.pinned (.plain (OpenSpec.ofChange xplexBlanksSpec)) xplexBlanksCard

/-- THE TIED CARD OF 'stencillaw05.XplexLiterals'. -/
def xplexLiteralsCard : Claim7 := { stood := { row := xplexLiteralsRow, standIns := [], harness := (true, "34ea4353be2d17449059d0eeba987624f496b18941db7d80b07e10ad58e44cf1"), looks := false }, kinds := [], alts := [], laidByText := true, laidKinds := [.data, .data, .pinned], laidTests := true, laidLooks := .later }
def XplexLiteralsCardSaid : Prop := Claim7.holds Tryd.pinned (.plain (OpenSpec.ofChange xplexLiteralsSpec)) xplexLiteralsCard

/-- THE TIED CARD OF 'stencillaw05.XplexNames'. -/
def xplexNamesCard : Claim7 := { stood := { row := xplexNamesRow, standIns := [], harness := (true, "34ea4353be2d17449059d0eeba987624f496b18941db7d80b07e10ad58e44cf1"), looks := false }, kinds := [], alts := [], laidByText := true, laidKinds := [.data, .data, .pinned], laidTests := true, laidLooks := .later }
def XplexNamesCardSaid : Prop := Claim7.holds Tryd.pinned (.plain (OpenSpec.ofChange xplexNamesSpec)) xplexNamesCard

/-- THE TIED CARD OF 'stencillaw05.XplexPlaces'. -/
def xplexPlacesCard : Claim7 := { stood := { row := xplexPlacesRow, standIns := [], harness := (true, "34ea4353be2d17449059d0eeba987624f496b18941db7d80b07e10ad58e44cf1"), looks := false }, kinds := [], alts := [], laidByText := true, laidKinds := [.data, .data, .pinned], laidTests := true, laidLooks := .later }
def XplexPlacesCardSaid : Prop := Claim7.holds Tryd.pinned (.plain (OpenSpec.ofChange xplexPlacesSpec)) xplexPlacesCard

/-- THE SECOND FORM's CARD OF 'stencillaw05.XplexJoins'. -/
def xplexJoinsUptoCard : Claim7 := { stood := { row := xplexJoinsUptoRow, standIns := [], harness := (true, "34ea4353be2d17449059d0eeba987624f496b18941db7d80b07e10ad58e44cf1"), looks := false }, kinds := [], alts := [], laidByText := true, laidKinds := [.data, .data, .pinned], laidTests := true, laidLooks := .later }
def XplexJoinsUptoCardSaid : Prop := Claim7.holds Tryd.pinned (.plain (OpenSpec.upto xplexJoinsSpec)) xplexJoinsUptoCard

/-- THE SECOND FORM's CARD OF 'stencillaw05.XplexBack'. -/
def xplexBackUptoCard : Claim7 := { stood := { row := xplexBackUptoRow, standIns := [], harness := (true, "34ea4353be2d17449059d0eeba987624f496b18941db7d80b07e10ad58e44cf1"), looks := false }, kinds := [], alts := [], laidByText := true, laidKinds := [.data, .data, .pinned], laidTests := true, laidLooks := .later }
def XplexBackUptoCardSaid : Prop := Claim7.holds Tryd.pinned (.plain (OpenSpec.upto xplexBackSpec)) xplexBackUptoCard

/-- THE SECOND FORM's CARD OF 'stencillaw05.XplexBlanks'. -/
def xplexBlanksUptoCard : Claim7 := { stood := { row := xplexBlanksUptoRow, standIns := [], harness := (true, "34ea4353be2d17449059d0eeba987624f496b18941db7d80b07e10ad58e44cf1"), looks := false }, kinds := [], alts := [], laidByText := true, laidKinds := [.data, .data, .pinned], laidTests := true, laidLooks := .later }
def XplexBlanksUptoCardSaid : Prop := Claim7.holds Tryd.pinned (.plain (OpenSpec.upto xplexBlanksSpec)) xplexBlanksUptoCard

/-- THE SECOND FORM's CARD OF 'stencillaw05.XplexLiterals'. -/
def xplexLiteralsUptoCard : Claim7 := { stood := { row := xplexLiteralsUptoRow, standIns := [], harness := (true, "34ea4353be2d17449059d0eeba987624f496b18941db7d80b07e10ad58e44cf1"), looks := false }, kinds := [], alts := [], laidByText := true, laidKinds := [.data, .data, .pinned], laidTests := true, laidLooks := .later }
def XplexLiteralsUptoCardSaid : Prop := Claim7.holds Tryd.pinned (.plain (OpenSpec.upto xplexLiteralsSpec)) xplexLiteralsUptoCard

/-- THE SECOND FORM's CARD OF 'stencillaw05.XplexNames'. -/
def xplexNamesUptoCard : Claim7 := { stood := { row := xplexNamesUptoRow, standIns := [], harness := (true, "34ea4353be2d17449059d0eeba987624f496b18941db7d80b07e10ad58e44cf1"), looks := false }, kinds := [], alts := [], laidByText := true, laidKinds := [.data, .data, .pinned], laidTests := true, laidLooks := .later }
def XplexNamesUptoCardSaid : Prop := Claim7.holds Tryd.pinned (.plain (OpenSpec.upto xplexNamesSpec)) xplexNamesUptoCard

/-- THE SECOND FORM's CARD OF 'stencillaw05.XplexPlaces'. -/
def xplexPlacesUptoCard : Claim7 := { stood := { row := xplexPlacesUptoRow, standIns := [], harness := (true, "34ea4353be2d17449059d0eeba987624f496b18941db7d80b07e10ad58e44cf1"), looks := false }, kinds := [], alts := [], laidByText := true, laidKinds := [.data, .data, .pinned], laidTests := true, laidLooks := .later }
def XplexPlacesUptoCardSaid : Prop := Claim7.holds Tryd.pinned (.plain (OpenSpec.upto xplexPlacesSpec)) xplexPlacesUptoCard
end Rows
end Go.Proofs.YtgabgeadeeaihaaDoor
