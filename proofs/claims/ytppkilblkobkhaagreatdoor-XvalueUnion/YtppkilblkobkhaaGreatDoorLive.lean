/- What must be whatever is asked: the law's 'live' answers true. -/
import Derived.Test.YtppkilblkobkhaaGreatDoorNames
import Derived.Test.YtppkilblkobkhaaGreatDoorTrim
import Derived.Lib.SlBytesConst
namespace Go.Proofs.YtppkilblkobkhaaGreatDoor
open Go.RowKit
end Go.Proofs.YtppkilblkobkhaaGreatDoor
