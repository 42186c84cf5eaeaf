/- Several texts, laid as one. -/
import Derived.Test.YtllhajjceecjdaaDoorGag
import Derived.Lib.RuneBytes
/- UTF-16 is read: xchar's unitOf, isPair, joinPair, firstWide and decodeWide. -/
namespace Go.Proofs.YtllhajjceecjdaaDoor
open Go.RowKit
end Go.Proofs.YtllhajjceecjdaaDoor
/- UTF-16 is read, character by character: xchar's decodeWide. -/
namespace Go.Proofs.YtllhajjceecjdaaDoor
open Go.RowKit
/-- A character's bytes in UTF-8. -/
def runeB (r : Nat) : List UInt8 := (Lib.encodeRuneZ (r : Int)).map fun z => UInt8.ofNat z.toNat
end Go.Proofs.YtllhajjceecjdaaDoor
