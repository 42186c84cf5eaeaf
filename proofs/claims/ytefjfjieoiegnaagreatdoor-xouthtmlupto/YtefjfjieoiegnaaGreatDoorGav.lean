/- Several texts, laid as one. -/
import Derived.Test.YtefjfjieoiegnaaGreatDoorGau
import Derived.Test.YtefjfjieoiegnaaGreatDoorGam
import Derived.Test.YtefjfjieoiegnaaGreatDoorGai
import Derived.Shelf.Strings.SlTrimAscii
import Derived.Test.YtefjfjieoiegnaaGreatDoorGat
import Derived.Test.YtefjfjieoiegnaaGreatDoorGal
/- The document type: xmlscan's doctype. -/
namespace Go.Proofs.YtefjfjieoiegnaaGreatDoor
open Go.RowKit
end Go.Proofs.YtefjfjieoiegnaaGreatDoor
/- What a declaration may say: xmlscan's isChoice and isVersion. -/
namespace Go.Proofs.YtefjfjieoiegnaaGreatDoor
open Go.RowKit
end Go.Proofs.YtefjfjieoiegnaaGreatDoor
/- An encoding's name: xmlscan's isEncoding. -/
namespace Go.Proofs.YtefjfjieoiegnaaGreatDoor
open Go.RowKit
end Go.Proofs.YtefjfjieoiegnaaGreatDoor
/- A setting of the declaration, and all of them: xmlscan's setting. -/
namespace Go.Proofs.YtefjfjieoiegnaaGreatDoor
open Go.RowKit
end Go.Proofs.YtefjfjieoiegnaaGreatDoor
