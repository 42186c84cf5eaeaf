/- UTF-16 is read, character by character: xchar's decodeWide. -/
import Derived.Test.YtppkilblkobkhaaGreatDoorDecWide
import Derived.Lib.RuneBytes
namespace Go.Proofs.YtppkilblkobkhaaGreatDoor
open Go.RowKit
/-- A character's bytes in UTF-8. -/
def runeB (r : Nat) : List UInt8 := (Lib.encodeRuneZ (r : Int)).map fun z => UInt8.ofNat z.toNat
end Go.Proofs.YtppkilblkobkhaaGreatDoor
