/-
  DERIVED. GIVEN WITH THE SEED: THE CARDS: each row of YtiembljlhmgpjaaGreatDoorRows.lean that lists a variable, with what it lists TIED to the program's text (the seventh form; the later family's looks); each row that meets fmt, with fmt's text TOLD by the authors' own Lean function (tested against real Go, not proved from fmt's source: count such statements apart). THE CARD IS WHAT COUNTS. Prove the row's statement (the work); the ties are given (YtiembljlhmgpjaaGreatDoorTie.lean); close each card by the builder's one call (the guide's Derived/Test/ToyasCard.lean, 'card_holds'). Laid BY PROGRAM, IN A SANDBOX (cutbox-door.mjs). By AI agents, Wed Nov 11 2026. No macro, syntax, notation, axiom, sorry.
-/
import Derived.Test.YtiembljlhmgpjaaGreatDoorRows
import GoSem.ClaimSeven
namespace Go.Proofs.YtiembljlhmgpjaaGreatDoor
namespace Rows

/-- THE TIED CARD OF 'stenciltop.TopDocs'. -/
def topDocsCard : Claim7 := { stood := { row := topDocsRow, standIns := [], harness := (true, "87510691d6fd18d6a9e94a8f3eeddf02bd540990e3f0758130a5f86cace66b2a"), looks := false }, kinds := [], alts := [], laidByText := true, laidKinds := [.data, .data, .data, .pinned, .pinned], laidTests := true, laidLooks := .later }
def TopDocsCardSaid : Prop := Claim7.holds Tryz.pinned (.plain (OpenSpec.ofChange topDocsSpec)) topDocsCard

/-- THE TIED CARD OF 'stenciltop.TopEntities'. -/
def topEntitiesCard : Claim7 := { stood := { row := topEntitiesRow, standIns := [], harness := (true, "87510691d6fd18d6a9e94a8f3eeddf02bd540990e3f0758130a5f86cace66b2a"), looks := false }, kinds := [], alts := [], laidByText := true, laidKinds := [.data, .data, .data, .pinned, .pinned], laidTests := true, laidLooks := .later }
def TopEntitiesCardSaid : Prop := Claim7.holds Tryz.pinned (.plain (OpenSpec.ofChange topEntitiesSpec)) topEntitiesCard

/-- THE SECOND FORM's CARD OF 'stenciltop.TopDocs'. -/
def topDocsUptoCard : Claim7 := { stood := { row := topDocsUptoRow, standIns := [], harness := (true, "87510691d6fd18d6a9e94a8f3eeddf02bd540990e3f0758130a5f86cace66b2a"), looks := false }, kinds := [], alts := [], laidByText := true, laidKinds := [.data, .data, .data, .pinned, .pinned], laidTests := true, laidLooks := .later }
def TopDocsUptoCardSaid : Prop := Claim7.holds Tryz.pinned (.plain (OpenSpec.upto topDocsSpec)) topDocsUptoCard

/-- THE SECOND FORM's CARD OF 'stenciltop.TopEntities'. -/
def topEntitiesUptoCard : Claim7 := { stood := { row := topEntitiesUptoRow, standIns := [], harness := (true, "87510691d6fd18d6a9e94a8f3eeddf02bd540990e3f0758130a5f86cace66b2a"), looks := false }, kinds := [], alts := [], laidByText := true, laidKinds := [.data, .data, .data, .pinned, .pinned], laidTests := true, laidLooks := .later }
def TopEntitiesUptoCardSaid : Prop := Claim7.holds Tryz.pinned (.plain (OpenSpec.upto topEntitiesSpec)) topEntitiesUptoCard
end Rows
end Go.Proofs.YtiembljlhmgpjaaGreatDoor
