/- Tokens as a text, in plain terms: each token is read as it was, and so is the whole document. -/
import Derived.Test.YtjjggncbhenffaaGreatDoorGbl
namespace Go.Proofs.YtjjggncbhenffaaGreatDoor
end Go.Proofs.YtjjggncbhenffaaGreatDoor
