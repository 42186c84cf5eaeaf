/- Names and QNames: xchar's IsName and Split. -/
import Derived.Test.YtppkilblkobkhaaGreatDoorLines
import Derived.Lib.OthersKept
import Derived.Lib.ValidLaws
namespace Go.Proofs.YtppkilblkobkhaaGreatDoor
open Go.RowKit
end Go.Proofs.YtppkilblkobkhaaGreatDoor
