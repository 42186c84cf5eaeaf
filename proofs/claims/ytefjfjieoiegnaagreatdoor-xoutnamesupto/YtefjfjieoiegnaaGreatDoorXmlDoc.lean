/- The whole document: xmlscan's document. -/
import Derived.Test.YtefjfjieoiegnaaGreatDoorXmlContent
import Derived.Test.YtefjfjieoiegnaaGreatDoorGbo
import Derived.Test.YtefjfjieoiegnaaGreatDoorXmlSets
namespace Go.Proofs.YtefjfjieoiegnaaGreatDoor
open Go.RowKit
attribute [local go_sem] jumps_normal jumps_exit jumps_ret jumps_goto jumps_panic
end Go.Proofs.YtefjfjieoiegnaaGreatDoor
