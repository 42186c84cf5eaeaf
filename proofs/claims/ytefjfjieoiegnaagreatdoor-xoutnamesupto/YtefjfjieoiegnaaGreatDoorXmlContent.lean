/- Content: xmlscan's content. -/
import Derived.Test.YtefjfjieoiegnaaGreatDoorGbk
import Derived.BigQuiet
import Derived.BigGuard
import Derived.BigCall
import Derived.Deep.QuietTactic
namespace Go.Proofs.YtefjfjieoiegnaaGreatDoor
open Go.RowKit
attribute [local go_sem] jumps_normal jumps_exit jumps_ret jumps_goto jumps_panic
end Go.Proofs.YtefjfjieoiegnaaGreatDoor
