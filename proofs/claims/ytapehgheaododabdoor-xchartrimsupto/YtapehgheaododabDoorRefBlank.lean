/- Which characters are blanks: the reference's IsBlank. -/
import Derived.Test.YtapehgheaododabDoorChars
namespace Go.Proofs.YtapehgheaododabDoor
open Go.RowKit
theorem refIsBlank_any (r : Int) (w : World) :
    Calls Tryd.prog 20 #[.int .i32 r] w fun e w' => e = .returned (.bool (blankB r)) ∧ w' = w := by
  go_enter Tryd.func20, Tryd.ntmps20
  go_wp2
  all_goals
    go_ret
    exact ⟨by simp [blankB, *], rfl⟩
end Go.Proofs.YtapehgheaododabDoor
