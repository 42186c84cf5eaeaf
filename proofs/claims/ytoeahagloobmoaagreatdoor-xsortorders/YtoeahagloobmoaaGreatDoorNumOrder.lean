/- Numbers are compared, ordered: xnum's Compare and Less. -/
import Derived.Test.YtoeahagloobmoaaGreatDoorNumRight
import Derived.Deep.RegionWith
namespace Go.Proofs.YtoeahagloobmoaaGreatDoor
open Go.RowKit
def cmpN (x y : Int) : Int := if x < y then -1 else if y < x then 1 else 0
set_option maxHeartbeats 1000000 in
theorem cmp64_any (x y : Int) (w : World) :
    Calls Tryz.prog 72 #[.int .i64 x, .int .i64 y] w fun e w' => e = .returned (.int .i64 (cmpN x y)) ∧ w' = w := by
  have h1 : ∀ x w, Calls Tryz.prog 84 #[.int .i64 x] w fun e w' => e = .returned (.bool false) ∧ w' = w := by
    intro x w
    go_enter Tryz.func84, Tryz.ntmps84
    go_wp2
    go_ret
    exact ⟨rfl, rfl⟩
  go_enter Tryz.func72, Tryz.ntmps72
  go_wp2_with (go_at_call 84; refine (h1 _ _).mono ?_; rintro e w' ⟨rfl, rfl⟩)
  all_goals
    go_ret
    exact ⟨ret_int (by unfold cmpN; (repeat' split) <;> omega), rfl⟩
set_option maxHeartbeats 1000000 in
theorem cmpInt_any (x y : Int) (w : World) :
    Calls Tryz.prog 70 #[.int .i64 x, .int .i64 y] w fun e w' => e = .returned (.int .i64 (cmpN x y)) ∧ w' = w := by
  have h1 : ∀ x w, Calls Tryz.prog 83 #[.int .i64 x] w fun e w' => e = .returned (.bool false) ∧ w' = w := by
    intro x w
    go_enter Tryz.func83, Tryz.ntmps83
    go_wp2
    go_ret
    exact ⟨rfl, rfl⟩
  go_enter Tryz.func70, Tryz.ntmps70
  go_wp2_with (go_at_call 83; refine (h1 _ _).mono ?_; rintro e w' ⟨rfl, rfl⟩)
  all_goals
    go_ret
    exact ⟨ret_int (by unfold cmpN; (repeat' split) <;> omega), rfl⟩
set_option maxHeartbeats 1000000 in
theorem rankOf_any (k v : Int) (w : World) :
    Calls Tryz.prog 71 #[.agg #[.int .i64 k, .int .i64 v]] w fun e w' => e = .returned (.int .i64 (rankN k)) ∧ w' = w.alloc (.cells #[.int .i64 k, .int .i64 v] 37) := by
  unfold rankN
  by_cases h2 : k = 2
  · subst h2
    go_enter Tryz.func71, Tryz.ntmps71
    go_wp2
    go_ret
    exact ⟨rfl, rfl⟩
  · by_cases h3 : k = 3
    · subst h3
      go_enter Tryz.func71, Tryz.ntmps71
      go_wp2
      go_ret
      exact ⟨rfl, rfl⟩
    · have e2 : (k == 2) = false := by simpa using h2
      have e3 : (k == 3) = false := by simpa using h3
      rw [if_neg h2, if_neg h3]
      clear h2 h3
      go_enter Tryz.func71, Tryz.ntmps71
      go_wp2
      go_ret
      exact ⟨rfl, rfl⟩
/-- How two numbers stand; 2: they can't be compared. -/
def cmpV (k v l u : Int) : Int := if infB k || infB l then cmpN (rankN k) (rankN l) else cmpN v u
/-- Is a number ahead of another one? -/
def lessB (k v l u : Int) : Bool := if (k == 1) || (l == 1) then (k == 1) && !(l == 1) else decide (cmpV k v l u < 0)
end Go.Proofs.YtoeahagloobmoaaGreatDoor
