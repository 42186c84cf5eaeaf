/-
  DERIVED. GIVEN WITH THE SEED: THE CARDS: each row of YtekjiagjgopnjaaGreatDoorRows.lean that lists a variable, with what it lists TIED to the program's text (the seventh form; the later family's looks); each row that meets fmt, with fmt's text TOLD by the authors' own Lean function (tested against real Go, not proved from fmt's source: count such statements apart). THE CARD IS WHAT COUNTS. Prove the row's statement (the work); the ties are given (YtekjiagjgopnjaaGreatDoorTie.lean); close each card by the builder's one call (the guide's Derived/Test/ToyasCard.lean, 'card_holds'). Laid BY PROGRAM, IN A SANDBOX (cutbox-door.mjs). By AI agents, Wed Nov 11 2026. No macro, syntax, notation, axiom, sorry.
-/
import Derived.Test.YtekjiagjgopnjaaGreatDoorRows
import GoSem.ClaimSeven
namespace Go.Proofs.YtekjiagjgopnjaaGreatDoor
namespace Rows

/-- THE TIED CARD OF 'stencillaw03.XmlscanAgain'. -/
def xmlscanAgainCard : Claim7 := { stood := { row := xmlscanAgainRow, standIns := [], harness := (true, "b86bb475a2c0450e928b759c135d177583ab91afd649fa1bd8c0a628111db3f5"), looks := false }, kinds := [], alts := [], laidByText := true, laidKinds := [.data, .data, .data, .pinned, .pinned], laidTests := true, laidLooks := .later }
def XmlscanAgainCardSaid : Prop := Claim7.holds Tryz.pinned (.plain (OpenSpec.ofChange xmlscanAgainSpec)) xmlscanAgainCard

/-- THE TIED CARD OF 'stencillaw03.XmlscanCuts'. -/
def xmlscanCutsCard : Claim7 := { stood := { row := xmlscanCutsRow, standIns := [], harness := (true, "b86bb475a2c0450e928b759c135d177583ab91afd649fa1bd8c0a628111db3f5"), looks := false }, kinds := [], alts := [], laidByText := true, laidKinds := [.data, .data, .data, .pinned, .pinned], laidTests := true, laidLooks := .later }
def XmlscanCutsCardSaid : Prop := Claim7.holds Tryz.pinned (.plain (OpenSpec.ofChange xmlscanCutsSpec)) xmlscanCutsCard

/-- THE SECOND FORM's CARD OF 'stencillaw03.XmlscanAgain'. -/
def xmlscanAgainUptoCard : Claim7 := { stood := { row := xmlscanAgainUptoRow, standIns := [], harness := (true, "b86bb475a2c0450e928b759c135d177583ab91afd649fa1bd8c0a628111db3f5"), looks := false }, kinds := [], alts := [], laidByText := true, laidKinds := [.data, .data, .data, .pinned, .pinned], laidTests := true, laidLooks := .later }
def XmlscanAgainUptoCardSaid : Prop := Claim7.holds Tryz.pinned (.plain (OpenSpec.upto xmlscanAgainSpec)) xmlscanAgainUptoCard

/-- THE SECOND FORM's CARD OF 'stencillaw03.XmlscanCuts'. -/
def xmlscanCutsUptoCard : Claim7 := { stood := { row := xmlscanCutsUptoRow, standIns := [], harness := (true, "b86bb475a2c0450e928b759c135d177583ab91afd649fa1bd8c0a628111db3f5"), looks := false }, kinds := [], alts := [], laidByText := true, laidKinds := [.data, .data, .data, .pinned, .pinned], laidTests := true, laidLooks := .later }
def XmlscanCutsUptoCardSaid : Prop := Claim7.holds Tryz.pinned (.plain (OpenSpec.upto xmlscanCutsSpec)) xmlscanCutsUptoCard
end Rows
end Go.Proofs.YtekjiagjgopnjaaGreatDoor
