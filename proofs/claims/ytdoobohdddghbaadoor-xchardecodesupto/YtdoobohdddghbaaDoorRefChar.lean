/- Which characters may be: the reference's IsChar. -/
import Derived.Test.YtdoobohdddghbaaDoorChars
namespace Go.Proofs.YtdoobohdddghbaaDoor
open Go.RowKit
set_option maxHeartbeats 400000 in
theorem refIsChar_any (r : Int) (w : World) :
    Calls Tryd.prog 26 #[.int .i32 r] w fun e w' => e = .returned (.bool (charR r)) ∧ w' = w := by
  go_enter Tryd.func26, Tryd.ntmps26
  go_wp2
  all_goals
    go_ret
    refine ⟨ret_bool ?_, rfl⟩
    rw [Bool.eq_iff_iff]
    simp [charR]
    try omega
end Go.Proofs.YtdoobohdddghbaaDoor
