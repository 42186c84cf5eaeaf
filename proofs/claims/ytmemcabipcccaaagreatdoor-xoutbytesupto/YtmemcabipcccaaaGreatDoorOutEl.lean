/- A tree's tokens by xml, where an element that ends at once is one tag: read as they were, or past a limit. -/
import Derived.Test.YtmemcabipcccaaaGreatDoorXmlWrQ
namespace Go.Proofs.YtmemcabipcccaaaGreatDoor
end Go.Proofs.YtmemcabipcccaaaGreatDoor
