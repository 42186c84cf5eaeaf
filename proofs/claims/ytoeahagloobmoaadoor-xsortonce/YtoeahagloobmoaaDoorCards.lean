/-
  DERIVED. GIVEN WITH THE SEED: THE CARDS: each row of YtoeahagloobmoaaDoorRows.lean that lists a variable, with what it lists TIED to the program's text (the seventh form; the later family's looks); each row that meets fmt, with fmt's text TOLD by the authors' own Lean function (tested against real Go, not proved from fmt's source: count such statements apart). THE CARD IS WHAT COUNTS. Prove the row's statement (the work); the ties are given (YtoeahagloobmoaaDoorTie.lean); close each card by the builder's one call (the guide's Derived/Test/ToyasCard.lean, 'card_holds'). Laid BY PROGRAM, IN A SANDBOX (cutbox-door.mjs). By AI agents, Wed Nov 11 2026. No macro, syntax, notation, axiom, sorry.
-/
import Derived.Test.YtoeahagloobmoaaDoorRows
import GoSem.ClaimSeven
namespace Go.Proofs.YtoeahagloobmoaaDoor
namespace Rows

/-- THE TIED CARD OF 'stencillaw13.XsortOnce'. -/
def xsortOnceCard : Claim7 := { stood := { row := xsortOnceRow, standIns := [], harness := (true, "dc8e4d748c7db8029d68bb375722a7f261c3f7561a6f17552224ab98f7026382"), looks := false }, kinds := [], alts := [], laidByText := true, laidKinds := [.data, .data, .data, .data, .pinned, .pinned], laidTests := true, laidLooks := .later }
def XsortOnceCardSaid : Prop := Claim7.holds Tryd.pinned (.plain (OpenSpec.ofChange xsortOnceSpec)) xsortOnceCard

/-- THE TIED CARD OF 'stencillaw13.XsortTurns'. -/
def xsortTurnsCard : Claim7 := { stood := { row := xsortTurnsRow, standIns := [], harness := (true, "dc8e4d748c7db8029d68bb375722a7f261c3f7561a6f17552224ab98f7026382"), looks := false }, kinds := [], alts := [], laidByText := true, laidKinds := [.data, .data, .data, .data, .pinned, .pinned], laidTests := true, laidLooks := .later }
def XsortTurnsCardSaid : Prop := Claim7.holds Tryd.pinned (.plain (OpenSpec.ofChange xsortTurnsSpec)) xsortTurnsCard

/-- THE TIED CARD OF 'stencillaw13.XsortDown'. -/
def xsortDownCard : Claim7 := { stood := { row := xsortDownRow, standIns := [], harness := (true, "dc8e4d748c7db8029d68bb375722a7f261c3f7561a6f17552224ab98f7026382"), looks := false }, kinds := [], alts := [], laidByText := true, laidKinds := [.data, .data, .data, .data, .pinned, .pinned], laidTests := true, laidLooks := .later }
def XsortDownCardSaid : Prop := Claim7.holds Tryd.pinned (.plain (OpenSpec.ofChange xsortDownSpec)) xsortDownCard

/-- THE SECOND FORM's CARD OF 'stencillaw13.XsortOnce'. -/
def xsortOnceUptoCard : Claim7 := { stood := { row := xsortOnceUptoRow, standIns := [], harness := (true, "dc8e4d748c7db8029d68bb375722a7f261c3f7561a6f17552224ab98f7026382"), looks := false }, kinds := [], alts := [], laidByText := true, laidKinds := [.data, .data, .data, .data, .pinned, .pinned], laidTests := true, laidLooks := .later }
def XsortOnceUptoCardSaid : Prop := Claim7.holds Tryd.pinned (.plain (OpenSpec.upto xsortOnceSpec)) xsortOnceUptoCard

/-- THE SECOND FORM's CARD OF 'stencillaw13.XsortTurns'. -/
def xsortTurnsUptoCard : Claim7 := { stood := { row := xsortTurnsUptoRow, standIns := [], harness := (true, "dc8e4d748c7db8029d68bb375722a7f261c3f7561a6f17552224ab98f7026382"), looks := false }, kinds := [], alts := [], laidByText := true, laidKinds := [.data, .data, .data, .data, .pinned, .pinned], laidTests := true, laidLooks := .later }
def XsortTurnsUptoCardSaid : Prop := Claim7.holds Tryd.pinned (.plain (OpenSpec.upto xsortTurnsSpec)) xsortTurnsUptoCard

/-- THE SECOND FORM's CARD OF 'stencillaw13.XsortDown'. -/
def xsortDownUptoCard : Claim7 := { stood := { row := xsortDownUptoRow, standIns := [], harness := (true, "dc8e4d748c7db8029d68bb375722a7f261c3f7561a6f17552224ab98f7026382"), looks := false }, kinds := [], alts := [], laidByText := true, laidKinds := [.data, .data, .data, .data, .pinned, .pinned], laidTests := true, laidLooks := .later }
def XsortDownUptoCardSaid : Prop := Claim7.holds Tryd.pinned (.plain (OpenSpec.upto xsortDownSpec)) xsortDownUptoCard
end Rows
end Go.Proofs.YtoeahagloobmoaaDoor
