/-
  DERIVED. GIVEN WITH THE SEED: THE CARDS: each row of YtllhajjceecjdaaDoorRows.lean that lists a variable, with what it lists TIED to the program's text (the seventh form; the later family's looks); each row that meets fmt, with fmt's text TOLD by the authors' own Lean function (tested against real Go, not proved from fmt's source: count such statements apart). THE CARD IS WHAT COUNTS. Prove the row's statement (the work); the ties are given (YtllhajjceecjdaaDoorTie.lean); close each card by the builder's one call (the guide's Derived/Test/ToyasCard.lean, 'card_holds'). Laid BY PROGRAM, IN A SANDBOX (cutbox-door.mjs). By AI agents, Wed Nov 11 2026. No macro, syntax, notation, axiom, sorry.
-/
import Derived.Test.YtllhajjceecjdaaDoorRows
import GoSem.ClaimSeven
namespace Go.Proofs.YtllhajjceecjdaaDoor
namespace Rows

/-- THE TIED CARD OF 'stencillaw14.XbuildTexts'. -/
def xbuildTextsCard : Claim7 := { stood := { row := xbuildTextsRow, standIns := [], harness := (true, "6c0740b820bc46235692c17fd079d639c3917727f456f93ea6aa435d836eb5bd"), looks := true }, kinds := [], alts := [], laidByText := true, laidKinds := [.data, .pinned], laidTests := true, laidLooks := .later }
def XbuildTextsCardSaid : Prop := Claim7.holds Tryd.pinned (.plain (OpenSpec.ofChange xbuildTextsSpec)) xbuildTextsCard

/-- THE SECOND FORM's CARD OF 'stencillaw14.XbuildTexts'. -/
def xbuildTextsUptoCard : Claim7 := { stood := { row := xbuildTextsUptoRow, standIns := [], harness := (true, "6c0740b820bc46235692c17fd079d639c3917727f456f93ea6aa435d836eb5bd"), looks := true }, kinds := [], alts := [], laidByText := true, laidKinds := [.data, .pinned], laidTests := true, laidLooks := .later }
def XbuildTextsUptoCardSaid : Prop := Claim7.holds Tryd.pinned (.plain (OpenSpec.upto xbuildTextsSpec)) xbuildTextsUptoCard
end Rows
end Go.Proofs.YtllhajjceecjdaaDoor
