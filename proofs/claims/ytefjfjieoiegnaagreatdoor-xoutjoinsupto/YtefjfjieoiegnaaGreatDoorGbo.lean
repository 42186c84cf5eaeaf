/- Several texts, laid as one. -/
import Derived.Test.YtefjfjieoiegnaaGreatDoorGbn
import Derived.Test.YtefjfjieoiegnaaGreatDoorGbl
import Derived.Test.YtefjfjieoiegnaaGreatDoorGas
import Derived.Test.YtefjfjieoiegnaaGreatDoorGbm
/- An encoding's name: xmlscan's isEncoding. -/
namespace Go.Proofs.YtefjfjieoiegnaaGreatDoor
open Go.RowKit
end Go.Proofs.YtefjfjieoiegnaaGreatDoor
/- A setting of the declaration, and all of them: xmlscan's setting. -/
namespace Go.Proofs.YtefjfjieoiegnaaGreatDoor
open Go.RowKit
end Go.Proofs.YtefjfjieoiegnaaGreatDoor
