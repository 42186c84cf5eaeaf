/- Several texts, laid as one. -/
import Derived.Test.YtefjfjieoiegnaaGreatDoorXmlEsc
import Derived.Test.YtefjfjieoiegnaaGreatDoorXmlDoc
/- Texts with other texts for some of their characters: the reference's Escape and Quote. -/
namespace Go.Proofs.YtefjfjieoiegnaaGreatDoor
open Go.RowKit
end Go.Proofs.YtefjfjieoiegnaaGreatDoor
/- Texts that are escaped, in plain terms: they are read as they were. -/
namespace Go.Proofs.YtefjfjieoiegnaaGreatDoor
end Go.Proofs.YtefjfjieoiegnaaGreatDoor
