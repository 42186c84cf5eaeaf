/- Rows of bytes that a call owns: what stays, what they are as a text. -/
import Derived.Test.YtppkilblkobkhaaGreatDoorNames
namespace Go.Proofs.YtppkilblkobkhaaGreatDoor
open Go.RowKit
def byteCells (l : List UInt8) : List Value := l.map fun c => Value.int .u8 (c.toNat : Int)
end Go.Proofs.YtppkilblkobkhaaGreatDoor
