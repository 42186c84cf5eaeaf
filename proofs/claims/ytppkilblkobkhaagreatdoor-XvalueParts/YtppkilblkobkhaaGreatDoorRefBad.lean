/- The first byte that is no part of a character that may be: the reference's Bad and IsText. -/
import Derived.Test.YtppkilblkobkhaaGreatDoorGbc
import Derived.Lib.RuneCountTail
import Derived.Test.YtppkilblkobkhaaGreatDoorRefChar
namespace Go.Proofs.YtppkilblkobkhaaGreatDoor
open Go.RowKit
end Go.Proofs.YtppkilblkobkhaaGreatDoor
