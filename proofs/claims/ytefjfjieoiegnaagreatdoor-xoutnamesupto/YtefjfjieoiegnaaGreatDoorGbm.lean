/- Several texts, laid as one. -/
import Derived.Test.YtefjfjieoiegnaaGreatDoorGbc
import Derived.Test.YtefjfjieoiegnaaGreatDoorGav
import Derived.Test.YtefjfjieoiegnaaGreatDoorXmlRefs
/- Where an entity's text comes to a sign that it may not have: strings.IndexAny, ContainsAny. -/
namespace Go.Proofs.YtefjfjieoiegnaaGreatDoor
open Go.RowKit
end Go.Proofs.YtefjfjieoiegnaaGreatDoor
/- An entity's text: xmlscan's isEntityText. -/
namespace Go.Proofs.YtefjfjieoiegnaaGreatDoor
open Go.RowKit
end Go.Proofs.YtefjfjieoiegnaaGreatDoor
