/- Which characters may be: the reference's IsChar. -/
import Derived.Test.YtppkilblkobkhaaGreatDoorChars
namespace Go.Proofs.YtppkilblkobkhaaGreatDoor
open Go.RowKit
end Go.Proofs.YtppkilblkobkhaaGreatDoor
