/- Several texts, laid as one. -/
import Derived.Test.YtefjfjieoiegnaaGreatDoorGbn
import Derived.Test.YtefjfjieoiegnaaGreatDoorGav
import Derived.Test.YtefjfjieoiegnaaGreatDoorGaj
import Derived.Shelf.Strings.SlTrimAscii
/- The document type: xmlscan's doctype. -/
namespace Go.Proofs.YtefjfjieoiegnaaGreatDoor
open Go.RowKit
end Go.Proofs.YtefjfjieoiegnaaGreatDoor
/- What a declaration may say: xmlscan's isChoice and isVersion. -/
namespace Go.Proofs.YtefjfjieoiegnaaGreatDoor
open Go.RowKit
end Go.Proofs.YtefjfjieoiegnaaGreatDoor
