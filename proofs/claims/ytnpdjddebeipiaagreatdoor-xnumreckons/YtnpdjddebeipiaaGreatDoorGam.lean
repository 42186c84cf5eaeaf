/- Several texts, laid as one. -/
import Derived.Test.YtnpdjddebeipiaaGreatDoorNumRight
import Derived.Deep.RegionWith
/- Numbers are compared, ordered: xnum's Compare and Less. -/
namespace Go.Proofs.YtnpdjddebeipiaaGreatDoor
open Go.RowKit
end Go.Proofs.YtnpdjddebeipiaaGreatDoor
/- The order of numbers that are right, in plain terms. -/
namespace Go.Proofs.YtnpdjddebeipiaaGreatDoor
open Go.RowKit
end Go.Proofs.YtnpdjddebeipiaaGreatDoor
