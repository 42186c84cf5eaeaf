/- Sums and differences of Fin numbers: xnum's Add and Sub. -/
import Derived.Test.YtnpdjddebeipiaaGreatDoorNumNeg
import Derived.Test.YtnpdjddebeipiaaGreatDoorNumInv
namespace Go.Proofs.YtnpdjddebeipiaaGreatDoor
open Go.RowKit
attribute [local go_sem ↓] Go.wp_at_zero Go.wp_at_succ
end Go.Proofs.YtnpdjddebeipiaaGreatDoor
