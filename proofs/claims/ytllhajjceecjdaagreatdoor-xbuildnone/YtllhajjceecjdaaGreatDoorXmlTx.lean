/- Texts that are cut at some signs, told over lists of characters: plain lemmas. -/
import Derived.Test.YtllhajjceecjdaaGreatDoorXmlPlain
import Derived.Test.YtllhajjceecjdaaGreatDoorLexFacts
namespace Go.Proofs.YtllhajjceecjdaaGreatDoor
open Go.RowKit
end Go.Proofs.YtllhajjceecjdaaGreatDoor
