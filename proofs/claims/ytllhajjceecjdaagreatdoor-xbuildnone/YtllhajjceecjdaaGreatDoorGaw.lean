/- Several texts, laid as one. -/
import Derived.Test.YtllhajjceecjdaaGreatDoorLexFacts
import Derived.Test.YtllhajjceecjdaaGreatDoorGas
/- The name, the string, the variable, the word that a text begins with, and which word is what: xplex's functions. -/
namespace Go.Proofs.YtllhajjceecjdaaGreatDoor
open Go.RowKit
end Go.Proofs.YtllhajjceecjdaaGreatDoor
/- The reference's IsName and Split give what the program's give. -/
namespace Go.Proofs.YtllhajjceecjdaaGreatDoor
open Go.RowKit
end Go.Proofs.YtllhajjceecjdaaGreatDoor
/- The string, the word that a text begins with, and which word is what: xplex's functions. -/
namespace Go.Proofs.YtllhajjceecjdaaGreatDoor
open Go.RowKit
end Go.Proofs.YtllhajjceecjdaaGreatDoor
