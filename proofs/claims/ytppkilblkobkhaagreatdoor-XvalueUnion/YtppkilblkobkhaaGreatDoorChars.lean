/- Which characters may be, are blanks, lie in a range: the contracts of xchar's and the reference's small tests. -/
import Derived.Test.YtppkilblkobkhaaGreatDoorBase
import Derived.Test.YtppkilblkobkhaaGreatDoorFloats
namespace Go.Proofs.YtppkilblkobkhaaGreatDoor
open Go.RowKit
end Go.Proofs.YtppkilblkobkhaaGreatDoor
