/- Ranges of characters, as lists of their ends: plain lemmas. -/
import Derived.Test.YtppkilblkobkhaaGreatDoorBase
namespace Go.Proofs.YtppkilblkobkhaaGreatDoor
open Go.RowKit
end Go.Proofs.YtppkilblkobkhaaGreatDoor
