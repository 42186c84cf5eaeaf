/- Several texts, laid as one. -/
import Derived.Test.YtefjfjieoiegnaaGreatDoorXmlExp2
import Derived.Test.YtefjfjieoiegnaaGreatDoorGax
/- Every reference: xmlscan's add, over addText's contract. -/
namespace Go.Proofs.YtefjfjieoiegnaaGreatDoor
open Go.RowKit
end Go.Proofs.YtefjfjieoiegnaaGreatDoor
/- Every reference, declared or not: xmlscan's add, over addText's contract. -/
namespace Go.Proofs.YtefjfjieoiegnaaGreatDoor
open Go.RowKit
end Go.Proofs.YtefjfjieoiegnaaGreatDoor
/- What an expansion's text and its count come to, in plain terms: each character of the text was spent. -/
namespace Go.Proofs.YtefjfjieoiegnaaGreatDoor
end Go.Proofs.YtefjfjieoiegnaaGreatDoor
