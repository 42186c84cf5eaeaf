/- Texts, as characters one behind the other, in UTF-8: plain lemmas. -/
import Derived.Test.YtppkilblkobkhaaGreatDoorRunePlain
import Derived.Test.YtppkilblkobkhaaGreatDoorMarkPlain
namespace Go.Proofs.YtppkilblkobkhaaGreatDoor
open Go.RowKit
end Go.Proofs.YtppkilblkobkhaaGreatDoor
