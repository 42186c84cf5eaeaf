/- law07.text: a function of texts, by what Call tells of it. -/
import Derived.Test.YtppkilblkobkhaaGreatDoorVaFn
import Derived.OwnWalk
import Derived.Deep.AppendLies
namespace Go.Proofs.YtppkilblkobkhaaGreatDoor
open Go.RowKit
end Go.Proofs.YtppkilblkobkhaaGreatDoor
