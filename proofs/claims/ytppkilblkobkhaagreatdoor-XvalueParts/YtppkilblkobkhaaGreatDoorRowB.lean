/- Rows of bytes that a call owns or has made of a constant: two bytes more. -/
import Derived.Test.YtppkilblkobkhaaGreatDoorOwnBytes
import Derived.ArgAppend
namespace Go.Proofs.YtppkilblkobkhaaGreatDoor
open Go.RowKit
end Go.Proofs.YtppkilblkobkhaaGreatDoor
