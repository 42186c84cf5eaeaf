/- How many characters a text has: of two texts together as many as of both. -/
import Derived.Test.YtppkilblkobkhaaGreatDoorVaFn
import Derived.Test.YtppkilblkobkhaaGreatDoorTxtPlain
import Derived.Test.YtppkilblkobkhaaGreatDoorMarkPlain
namespace Go.Proofs.YtppkilblkobkhaaGreatDoor
open Go.RowKit
theorem bsT_of (s : ByteArray) : bsT s.data.toList = s := by
  cases s; simp [bsT]
end Go.Proofs.YtppkilblkobkhaaGreatDoor
