/- Which characters may be: the reference's IsChar. -/
import Derived.Test.YtgabgeadeeaihaaDoorChars
namespace Go.Proofs.YtgabgeadeeaihaaDoor
open Go.RowKit
set_option maxHeartbeats 400000 in
theorem refIsChar_any (r : Int) (w : World) :
    Calls Tryd.prog 45 #[.int .i32 r] w fun e w' => e = .returned (.bool (charR r)) ∧ w' = w := by
  go_enter Tryd.func45, Tryd.ntmps45
  go_wp2
  all_goals
    go_ret
    refine ⟨ret_bool ?_, rfl⟩
    rw [Bool.eq_iff_iff]
    simp [charR]
    try omega
end Go.Proofs.YtgabgeadeeaihaaDoor
