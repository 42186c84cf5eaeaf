/- Which characters may be: the reference's IsChar. -/
import Derived.Test.YtppkilblkobkhaaGreatDoorChars
namespace Go.Proofs.YtppkilblkobkhaaGreatDoor
open Go.RowKit
set_option maxHeartbeats 400000 in
theorem refIsChar_any (r : Int) (w : World) :
    Calls Tryz.prog 52 #[.int .i32 r] w fun e w' => e = .returned (.bool (charR r)) ∧ w' = w := by
  go_enter Tryz.func52, Tryz.ntmps52
  go_wp2
  all_goals
    go_ret
    refine ⟨ret_bool ?_, rfl⟩
    rw [Bool.eq_iff_iff]
    simp [charR]
    try omega
end Go.Proofs.YtppkilblkobkhaaGreatDoor
