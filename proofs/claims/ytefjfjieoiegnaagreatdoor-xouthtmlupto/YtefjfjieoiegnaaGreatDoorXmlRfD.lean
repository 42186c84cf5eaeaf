/- Whether tokens are a document's, and the error: the reference's Right. -/
import Derived.Test.YtefjfjieoiegnaaGreatDoorGbp
import Derived.Test.YtefjfjieoiegnaaGreatDoorGbe
import Derived.Test.YtefjfjieoiegnaaGreatDoorGbf
namespace Go.Proofs.YtefjfjieoiegnaaGreatDoor
open Go.RowKit
end Go.Proofs.YtefjfjieoiegnaaGreatDoor
