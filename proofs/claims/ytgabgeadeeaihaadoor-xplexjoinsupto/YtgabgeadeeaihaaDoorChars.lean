/- Which characters may be, are blanks, lie in a range: the contracts of xchar's and the reference's small tests. -/
import Derived.Test.YtgabgeadeeaihaaDoorBase
import Derived.Test.YtgabgeadeeaihaaDoorFloats
namespace Go.Proofs.YtgabgeadeeaihaaDoor
open Go.RowKit
def wB (r : Int) (fa fb : Nat) : Bool :=
  (FloatKind.f64.format.order fa (floatOfInt FloatKind.f64 r) == some Ordering.lt || FloatKind.f64.format.order fa (floatOfInt FloatKind.f64 r) == some Ordering.eq) &&
  (FloatKind.f64.format.order (floatOfInt FloatKind.f64 r) fb == some Ordering.lt || FloatKind.f64.format.order (floatOfInt FloatKind.f64 r) fb == some Ordering.eq)
set_option maxHeartbeats 400000 in
theorem within_any (r : Int) (fa fb : Nat) (w : World) :
    Calls Tryd.prog 52 #[.int .i32 r, .complex .f64 fa fb] w fun e w' => e = .returned (.bool (wB r fa fb)) ∧ w' = w := by
  go_enter Tryd.func52, Tryd.ntmps52
  go_wp2
  all_goals
    go_ret
    exact ⟨by simp [wB, *], rfl⟩
def charB (r : Int) : Bool := r == 9 || r == 10 || r == 13 || wB r 4629700416936869888 4677832500515438592 || wB r 4678114112931102720 4679239600521084928 || wB r 4679240012837945344 4697535882029170688
set_option maxHeartbeats 400000 in
theorem isChar_any (r : Int) (w : World) :
    Calls Tryd.prog 37 #[.int .i32 r] w fun e w' => e = .returned (.bool (charB r)) ∧ w' = w := by
  go_enter Tryd.func37, Tryd.ntmps37
  go_wp2_with (go_at_call 52; refine (within_any _ _ _ _).mono ?_; rintro e w' ⟨rfl, rfl⟩)
  all_goals
    go_ret
    exact ⟨by simp [charB, *], rfl⟩
def charR (r : Int) : Bool := r == 9 || r == 10 || r == 13 || (decide (32 ≤ r) && decide (r ≤ 55295)) || (decide (57344 ≤ r) && decide (r ≤ 65533)) || (decide (65536 ≤ r) && decide (r ≤ 1114111))
def blankB (r : Int) : Bool := r == 9 || r == 10 || r == 13 || r == 32
theorem isBlank_any (r : Int) (w : World) :
    Calls Tryd.prog 39 #[.int .i32 r] w fun e w' => e = .returned (.bool (blankB r)) ∧ w' = w := by
  go_enter Tryd.func39, Tryd.ntmps39
  go_wp2
  all_goals
    go_ret
    refine ⟨ret_bool ?_, rfl⟩
    rw [Bool.eq_iff_iff]
    simp [blankB]
    try omega
end Go.Proofs.YtgabgeadeeaihaaDoor
