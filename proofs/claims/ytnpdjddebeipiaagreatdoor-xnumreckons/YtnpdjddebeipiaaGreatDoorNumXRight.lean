/- Whether a number is right: xnum's Right. -/
import Derived.Test.YtnpdjddebeipiaaGreatDoorNumRight
namespace Go.Proofs.YtnpdjddebeipiaaGreatDoor
open Go.RowKit
end Go.Proofs.YtnpdjddebeipiaaGreatDoor
