/- What is decoded of a text, byte by byte: plain lemmas. -/
import Derived.Test.YtppkilblkobkhaaGreatDoorLines
import Derived.Lib.DecodeN
namespace Go.Proofs.YtppkilblkobkhaaGreatDoor
open Go.RowKit
end Go.Proofs.YtppkilblkobkhaaGreatDoor
