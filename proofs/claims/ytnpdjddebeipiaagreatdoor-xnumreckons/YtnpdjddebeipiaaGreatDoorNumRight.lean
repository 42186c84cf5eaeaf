/- Numbers that are right: the reference's Right and the law's right. -/
import Derived.Test.YtnpdjddebeipiaaGreatDoorNumSmall
namespace Go.Proofs.YtnpdjddebeipiaaGreatDoor
open Go.RowKit
def rightB (k v : Int) : Bool := if k = 0 then decide (-1000000000000000000 ≤ v) && decide (v ≤ 1000000000000000000) else if k = 1 ∨ k = 2 ∨ k = 3 then v == 0 else false
set_option maxHeartbeats 1000000 in
theorem refRight_any (k v : Int) (w : World) :
    Calls Tryz.prog 28 #[.agg #[.int .i64 k, .int .i64 v]] w fun e w' => e = .returned (.bool (rightB k v)) ∧ w' = w.alloc (.cells #[.int .i64 k, .int .i64 v] 24) := by
  by_cases h0 : k = 0
  · subst h0
    go_enter Tryz.func28, Tryz.ntmps28
    go_wp2
    all_goals
      go_ret
      exact ⟨ret_bool (by first | (simp [rightB, *]; done) | (simp [rightB, *]; omega)), rfl⟩
  · by_cases h1 : k = 1 ∨ k = 2 ∨ k = 3
    · have HR := hide (show rightB k v = (v == 0) by unfold rightB; rw [if_neg h0, if_pos h1])
      rcases h1 with rfl | rfl | rfl
      all_goals
        go_enter Tryz.func28, Tryz.ntmps28
        go_wp2
        go_ret
        exact ⟨ret_bool (unhide HR).symm, rfl⟩
    · have HR := hide (show rightB k v = false by unfold rightB; rw [if_neg h0, if_neg h1])
      have e0 : (k == 0) = false := by simpa using h0
      have e1 : (k == 1) = false := by simpa using fun h => h1 (.inl h)
      have e2 : (k == 2) = false := by simpa using fun h => h1 (.inr (.inl h))
      have e3 : (k == 3) = false := by simpa using fun h => h1 (.inr (.inr h))
      clear h0 h1
      go_enter Tryz.func28, Tryz.ntmps28
      go_wp2
      go_ret
      exact ⟨ret_bool (unhide HR).symm, rfl⟩
set_option maxHeartbeats 1000000 in
theorem right_any (k v l u : Int) (w : World) :
    Calls Tryz.prog 9 #[.agg #[.int .i64 k, .int .i64 v], .agg #[.int .i64 l, .int .i64 u]] w fun e w' => e = .returned (.bool (rightB k v && rightB l u)) ∧ Below w.heap.size w w' := by
  cases hk : rightB k v
  all_goals
    go_enter Tryz.func9, Tryz.ntmps9
    go_wp2_with (go_at_call 28; refine (refRight_any _ _ _).mono ?_; rintro e w' ⟨rfl, rfl⟩)
    all_goals
      go_ret
      refine ⟨ret_bool (by simp), ?_⟩
      (repeat first | exact Below.refl _ _ | assumption | refine Below.drew ?_ | refine Below.alloc ?_ (by simp <;> omega) _ | refine Below.setCell ?_ (by simp <;> omega) _)
theorem right_cases {k v : Int} (h : rightB k v = true) : (k = 0 ∧ -1000000000000000000 ≤ v ∧ v ≤ 1000000000000000000) ∨ (k = 1 ∧ v = 0) ∨ (k = 2 ∧ v = 0) ∨ (k = 3 ∧ v = 0) := by
  unfold rightB at h
  by_cases h0 : k = 0
  · rw [if_pos h0] at h
    simp only [Bool.and_eq_true, decide_eq_true_eq] at h
    exact .inl ⟨h0, h.1, h.2⟩
  · rw [if_neg h0] at h
    by_cases h1 : k = 1 ∨ k = 2 ∨ k = 3
    · rw [if_pos h1] at h
      have hv : v = 0 := by simpa using h
      rcases h1 with h1 | h1 | h1
      · exact .inr (.inl ⟨h1, hv⟩)
      · exact .inr (.inr (.inl ⟨h1, hv⟩))
      · exact .inr (.inr (.inr ⟨h1, hv⟩))
    · rw [if_neg h1] at h
      cases h
end Go.Proofs.YtnpdjddebeipiaaGreatDoor
