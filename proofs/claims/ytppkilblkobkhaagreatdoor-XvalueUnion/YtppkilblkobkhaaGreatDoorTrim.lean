/- Blanks: xchar's Trim. -/
import Derived.Test.YtppkilblkobkhaaGreatDoorLines
namespace Go.Proofs.YtppkilblkobkhaaGreatDoor
open Go.RowKit
end Go.Proofs.YtppkilblkobkhaaGreatDoor
