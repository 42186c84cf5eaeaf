/- Tokens as a text, in plain terms: each token is read as it was, and so is the whole document. -/
import Derived.Test.YtmemcabipcccaaaGreatDoorXmlWrP
namespace Go.Proofs.YtmemcabipcccaaaGreatDoor
end Go.Proofs.YtmemcabipcccaaaGreatDoor
