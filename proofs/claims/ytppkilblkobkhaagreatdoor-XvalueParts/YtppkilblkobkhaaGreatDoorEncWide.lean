/- A text in UTF-16: xchar's splitPair and encodeWide. -/
import Derived.Test.YtppkilblkobkhaaGreatDoorRowB
import Derived.Laws.ComplexArith
import Derived.Lib.SlBytesConst
namespace Go.Proofs.YtppkilblkobkhaaGreatDoor
open Go.RowKit
end Go.Proofs.YtppkilblkobkhaaGreatDoor
