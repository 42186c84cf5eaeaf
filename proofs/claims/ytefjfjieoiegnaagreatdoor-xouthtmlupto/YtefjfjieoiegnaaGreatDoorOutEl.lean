/- A tree's tokens by xml, where an element that ends at once is one tag: read as they were, or past a limit. -/
import Derived.Test.YtefjfjieoiegnaaGreatDoorXmlWrQ
namespace Go.Proofs.YtefjfjieoiegnaaGreatDoor
end Go.Proofs.YtefjfjieoiegnaaGreatDoor
