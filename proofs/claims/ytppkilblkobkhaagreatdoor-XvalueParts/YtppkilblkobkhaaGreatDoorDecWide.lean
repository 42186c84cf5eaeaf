/- UTF-16 is read: xchar's unitOf, isPair, joinPair, firstWide and decodeWide. -/
import Derived.Test.YtppkilblkobkhaaGreatDoorEncWide
namespace Go.Proofs.YtppkilblkobkhaaGreatDoor
open Go.RowKit
end Go.Proofs.YtppkilblkobkhaaGreatDoor
