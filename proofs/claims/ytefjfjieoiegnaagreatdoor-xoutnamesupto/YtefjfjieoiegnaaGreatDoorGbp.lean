/- Several texts, laid as one. -/
import Derived.Test.YtefjfjieoiegnaaGreatDoorGbo
import Derived.Test.YtefjfjieoiegnaaGreatDoorGbm
import Derived.Test.YtefjfjieoiegnaaGreatDoorGat
import Derived.Test.YtefjfjieoiegnaaGreatDoorGbn
/- An encoding's name: xmlscan's isEncoding. -/
namespace Go.Proofs.YtefjfjieoiegnaaGreatDoor
open Go.RowKit
end Go.Proofs.YtefjfjieoiegnaaGreatDoor
/- A setting of the declaration, and all of them: xmlscan's setting. -/
namespace Go.Proofs.YtefjfjieoiegnaaGreatDoor
open Go.RowKit
end Go.Proofs.YtefjfjieoiegnaaGreatDoor
