/- Several texts, laid as one. -/
import Derived.Test.YtppkilblkobkhaaGreatDoorNames
import Derived.Test.YtppkilblkobkhaaGreatDoorTrim
import Derived.Lib.SlBytesConst
import Derived.Test.YtppkilblkobkhaaGreatDoorLines
import Derived.Lib.DecodeN
/- What must be whatever is asked: the law's 'live' answers true. -/
namespace Go.Proofs.YtppkilblkobkhaaGreatDoor
open Go.RowKit
end Go.Proofs.YtppkilblkobkhaaGreatDoor
/- What is decoded of a text, byte by byte: plain lemmas. -/
namespace Go.Proofs.YtppkilblkobkhaaGreatDoor
open Go.RowKit
end Go.Proofs.YtppkilblkobkhaaGreatDoor
