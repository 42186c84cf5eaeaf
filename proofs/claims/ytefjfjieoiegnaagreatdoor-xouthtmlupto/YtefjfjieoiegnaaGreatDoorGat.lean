/- Several texts, laid as one. -/
import Derived.Test.YtefjfjieoiegnaaGreatDoorGas
import Derived.BigQuiet
import Derived.BigGuard
import Derived.BigCall
import Derived.Deep.QuietTactic
import Derived.Test.YtefjfjieoiegnaaGreatDoorGan
import Derived.Test.YtefjfjieoiegnaaGreatDoorGam
/- Content: xmlscan's content. -/
namespace Go.Proofs.YtefjfjieoiegnaaGreatDoor
open Go.RowKit
attribute [local go_sem] jumps_normal jumps_exit jumps_ret jumps_goto jumps_panic
end Go.Proofs.YtefjfjieoiegnaaGreatDoor
/- Where an entity's text comes to a sign that it may not have: strings.IndexAny, ContainsAny. -/
namespace Go.Proofs.YtefjfjieoiegnaaGreatDoor
open Go.RowKit
end Go.Proofs.YtefjfjieoiegnaaGreatDoor
/- An entity's text: xmlscan's isEntityText. -/
namespace Go.Proofs.YtefjfjieoiegnaaGreatDoor
open Go.RowKit
end Go.Proofs.YtefjfjieoiegnaaGreatDoor
