/- concat, starts-with, contains, substring-before, substring-after, string-length of texts. -/
import Derived.Test.YtppkilblkobkhaaGreatDoorVaLive
import Derived.Test.YtppkilblkobkhaaGreatDoorClsTail
namespace Go.Proofs.YtppkilblkobkhaaGreatDoor
open Go.RowKit
end Go.Proofs.YtppkilblkobkhaaGreatDoor
