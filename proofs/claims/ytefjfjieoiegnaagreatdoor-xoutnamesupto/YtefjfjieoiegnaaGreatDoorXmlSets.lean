/- The declaration: xmlscan's settings and declaration. -/
import Derived.Test.YtefjfjieoiegnaaGreatDoorGbp
namespace Go.Proofs.YtefjfjieoiegnaaGreatDoor
open Go.RowKit
end Go.Proofs.YtefjfjieoiegnaaGreatDoor
