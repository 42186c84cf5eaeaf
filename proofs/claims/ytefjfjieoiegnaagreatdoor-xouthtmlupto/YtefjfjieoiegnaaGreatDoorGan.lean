/- Several texts, laid as one. -/
import Derived.Test.YtefjfjieoiegnaaGreatDoorGam
import Derived.Shelf.Strings.MapAny
import Derived.Test.YtefjfjieoiegnaaGreatDoorGaj
/- References in a document where no entity is declared: xmlscan's reference. -/
namespace Go.Proofs.YtefjfjieoiegnaaGreatDoor
open Go.RowKit
end Go.Proofs.YtefjfjieoiegnaaGreatDoor
/- Blanks as spaces: xmlscan's spaced. -/
namespace Go.Proofs.YtefjfjieoiegnaaGreatDoor
open Go.RowKit
end Go.Proofs.YtefjfjieoiegnaaGreatDoor
/- Where an attribute's text comes to a sign: strings.IndexAny. -/
namespace Go.Proofs.YtefjfjieoiegnaaGreatDoor
open Go.RowKit
end Go.Proofs.YtefjfjieoiegnaaGreatDoor
