/- Which characters are blanks: the reference's IsBlank. -/
import Derived.Test.YtgabgeadeeaihaaDoorChars
namespace Go.Proofs.YtgabgeadeeaihaaDoor
open Go.RowKit
theorem refIsBlank_any (r : Int) (w : World) :
    Calls Tryd.prog 27 #[.int .i32 r] w fun e w' => e = .returned (.bool (blankB r)) ∧ w' = w := by
  go_enter Tryd.func27, Tryd.ntmps27
  go_wp2
  all_goals
    go_ret
    exact ⟨by simp [blankB, *], rfl⟩
end Go.Proofs.YtgabgeadeeaihaaDoor
