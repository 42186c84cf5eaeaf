/- Whether a number is right: xnum's Right. -/
import Derived.Test.YtndoodiimjkojaaGreatDoorNumRight
namespace Go.Proofs.YtndoodiimjkojaaGreatDoor
open Go.RowKit
set_option maxHeartbeats 1000000 in
theorem xright_any (k v : Int) (w : World) :
    Calls Tryz.prog 4 #[.agg #[.int .i64 k, .int .i64 v]] w fun e w' => e = .returned (.bool (rightB k v)) ∧ Below w.heap.size w w' := by
  by_cases h0 : k = 0
  · subst h0
    go_enter Tryz.func4, Tryz.ntmps4
    go_wp2
    all_goals
      go_ret
      exact ⟨ret_bool (by first | (simp [rightB, *]; done) | (simp [rightB, *]; omega)), by (repeat first | exact Below.refl _ _ | assumption | refine Below.drew ?_ | refine Below.alloc ?_ (by simp <;> omega) _ | refine Below.setCell ?_ (by simp <;> omega) _)⟩
  · by_cases h1 : k = 1 ∨ k = 2 ∨ k = 3
    · have HR := hide (show rightB k v = (v == 0) by unfold rightB; rw [if_neg h0, if_pos h1])
      rcases h1 with rfl | rfl | rfl
      all_goals
        go_enter Tryz.func4, Tryz.ntmps4
        go_wp2
        go_ret
        exact ⟨ret_bool (unhide HR).symm, by (repeat first | exact Below.refl _ _ | assumption | refine Below.drew ?_ | refine Below.alloc ?_ (by simp <;> omega) _ | refine Below.setCell ?_ (by simp <;> omega) _)⟩
    · have HR := hide (show rightB k v = false by unfold rightB; rw [if_neg h0, if_neg h1])
      have e0 : (k == 0) = false := by simpa using h0
      have e1 : (k == 1) = false := by simpa using fun h => h1 (.inl h)
      have e2 : (k == 2) = false := by simpa using fun h => h1 (.inr (.inl h))
      have e3 : (k == 3) = false := by simpa using fun h => h1 (.inr (.inr h))
      clear h0 h1
      go_enter Tryz.func4, Tryz.ntmps4
      go_wp2
      go_ret
      exact ⟨ret_bool (unhide HR).symm, by (repeat first | exact Below.refl _ _ | assumption | refine Below.drew ?_ | refine Below.alloc ?_ (by simp <;> omega) _ | refine Below.setCell ?_ (by simp <;> omega) _)⟩
end Go.Proofs.YtndoodiimjkojaaGreatDoor
