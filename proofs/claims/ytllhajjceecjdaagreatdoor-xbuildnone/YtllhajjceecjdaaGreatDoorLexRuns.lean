/- The digits, the name that a text begins with: xplex's digitsAhead and nameAhead. -/
import Derived.Test.YtllhajjceecjdaaGreatDoorLexTx
import Derived.Test.YtllhajjceecjdaaGreatDoorLexSame
namespace Go.Proofs.YtllhajjceecjdaaGreatDoor
open Go.RowKit
end Go.Proofs.YtllhajjceecjdaaGreatDoor
