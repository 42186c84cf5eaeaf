/- UTF-16 is read, character by character: xchar's decodeWide. -/
import Derived.Test.YtppkilblkobkhaaGreatDoorDecWide
import Derived.Lib.RuneBytes
namespace Go.Proofs.YtppkilblkobkhaaGreatDoor
open Go.RowKit
end Go.Proofs.YtppkilblkobkhaaGreatDoor
