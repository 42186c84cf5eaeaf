/- Several texts, laid as one. -/
import Derived.Test.YtefjfjieoiegnaaGreatDoorGak
import Derived.Test.YtefjfjieoiegnaaGreatDoorGaj
/- Text as it stands, and CDATA: xmlscan's plain and section. -/
namespace Go.Proofs.YtefjfjieoiegnaaGreatDoor
open Go.RowKit
end Go.Proofs.YtefjfjieoiegnaaGreatDoor
/- CDATA and end tags: xmlscan's section and endTag. -/
namespace Go.Proofs.YtefjfjieoiegnaaGreatDoor
open Go.RowKit
end Go.Proofs.YtefjfjieoiegnaaGreatDoor
/- End tags: xmlscan's endTag. -/
namespace Go.Proofs.YtefjfjieoiegnaaGreatDoor
open Go.RowKit
/-- The names that are open are texts, and not too many. -/
def OpnOk (s : RS) : Prop := (∀ x ∈ s.opn, okL x ∧ (T x).size ≤ 32768) ∧ s.opn.length ≤ 32
end Go.Proofs.YtefjfjieoiegnaaGreatDoor
/- Characters looked for among signs below 128: strings.IndexRune. -/
namespace Go.Proofs.YtefjfjieoiegnaaGreatDoor
open Go.RowKit
end Go.Proofs.YtefjfjieoiegnaaGreatDoor
/- A character above 127 among signs below 128: strings.IndexRune. -/
namespace Go.Proofs.YtefjfjieoiegnaaGreatDoor
open Go.RowKit
end Go.Proofs.YtefjfjieoiegnaaGreatDoor
