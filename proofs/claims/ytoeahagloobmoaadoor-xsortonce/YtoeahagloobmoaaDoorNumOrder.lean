/- Numbers are compared, ordered: xnum's Compare and Less. -/
import Derived.Test.YtoeahagloobmoaaDoorNumRight
import Derived.Deep.RegionWith
namespace Go.Proofs.YtoeahagloobmoaaDoor
open Go.RowKit
def cmpN (x y : Int) : Int := if x < y then -1 else if y < x then 1 else 0
set_option maxHeartbeats 1000000 in
theorem cmp64_any (x y : Int) (w : World) :
    Calls Tryd.prog 68 #[.int .i64 x, .int .i64 y] w fun e w' => e = .returned (.int .i64 (cmpN x y)) ∧ w' = w := by
  have h1 : ∀ x w, Calls Tryd.prog 80 #[.int .i64 x] w fun e w' => e = .returned (.bool false) ∧ w' = w := by
    intro x w
    go_enter Tryd.func80, Tryd.ntmps80
    go_wp2
    go_ret
    exact ⟨rfl, rfl⟩
  go_enter Tryd.func68, Tryd.ntmps68
  go_wp2_with (go_at_call 80; refine (h1 _ _).mono ?_; rintro e w' ⟨rfl, rfl⟩)
  all_goals
    go_ret
    exact ⟨ret_int (by unfold cmpN; (repeat' split) <;> omega), rfl⟩
set_option maxHeartbeats 1000000 in
theorem cmpInt_any (x y : Int) (w : World) :
    Calls Tryd.prog 66 #[.int .i64 x, .int .i64 y] w fun e w' => e = .returned (.int .i64 (cmpN x y)) ∧ w' = w := by
  have h1 : ∀ x w, Calls Tryd.prog 79 #[.int .i64 x] w fun e w' => e = .returned (.bool false) ∧ w' = w := by
    intro x w
    go_enter Tryd.func79, Tryd.ntmps79
    go_wp2
    go_ret
    exact ⟨rfl, rfl⟩
  go_enter Tryd.func66, Tryd.ntmps66
  go_wp2_with (go_at_call 79; refine (h1 _ _).mono ?_; rintro e w' ⟨rfl, rfl⟩)
  all_goals
    go_ret
    exact ⟨ret_int (by unfold cmpN; (repeat' split) <;> omega), rfl⟩
set_option maxHeartbeats 1000000 in
theorem rankOf_any (k v : Int) (w : World) :
    Calls Tryd.prog 67 #[.agg #[.int .i64 k, .int .i64 v]] w fun e w' => e = .returned (.int .i64 (rankN k)) ∧ w' = w.alloc (.cells #[.int .i64 k, .int .i64 v] 35) := by
  unfold rankN
  by_cases h2 : k = 2
  · subst h2
    go_enter Tryd.func67, Tryd.ntmps67
    go_wp2
    go_ret
    exact ⟨rfl, rfl⟩
  · by_cases h3 : k = 3
    · subst h3
      go_enter Tryd.func67, Tryd.ntmps67
      go_wp2
      go_ret
      exact ⟨rfl, rfl⟩
    · have e2 : (k == 2) = false := by simpa using h2
      have e3 : (k == 3) = false := by simpa using h3
      rw [if_neg h2, if_neg h3]
      clear h2 h3
      go_enter Tryd.func67, Tryd.ntmps67
      go_wp2
      go_ret
      exact ⟨rfl, rfl⟩
/-- How two numbers stand; 2: they can't be compared. -/
def cmpV (k v l u : Int) : Int := if infB k || infB l then cmpN (rankN k) (rankN l) else cmpN v u
/-- Is a number ahead of another one? -/
def lessB (k v l u : Int) : Bool := if (k == 1) || (l == 1) then (k == 1) && !(l == 1) else decide (cmpV k v l u < 0)
end Go.Proofs.YtoeahagloobmoaaDoor
