/- References in a document where no entity is declared: xmlscan's reference. -/
import Derived.Test.YtefjfjieoiegnaaGreatDoorGav
namespace Go.Proofs.YtefjfjieoiegnaaGreatDoor
open Go.RowKit
end Go.Proofs.YtefjfjieoiegnaaGreatDoor
