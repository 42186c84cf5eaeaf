/- Numbers that are right: the reference's Right and the law's right. -/
import Derived.Test.YtndoodiimjkojaaGreatDoorNumSmall
namespace Go.Proofs.YtndoodiimjkojaaGreatDoor
open Go.RowKit
def rightB (k v : Int) : Bool := if k = 0 then decide (-1000000000000000000 ≤ v) && decide (v ≤ 1000000000000000000) else if k = 1 ∨ k = 2 ∨ k = 3 then v == 0 else false
theorem right_cases {k v : Int} (h : rightB k v = true) : (k = 0 ∧ -1000000000000000000 ≤ v ∧ v ≤ 1000000000000000000) ∨ (k = 1 ∧ v = 0) ∨ (k = 2 ∧ v = 0) ∨ (k = 3 ∧ v = 0) := by
  unfold rightB at h
  by_cases h0 : k = 0
  · rw [if_pos h0] at h
    simp only [Bool.and_eq_true, decide_eq_true_eq] at h
    exact .inl ⟨h0, h.1, h.2⟩
  · rw [if_neg h0] at h
    by_cases h1 : k = 1 ∨ k = 2 ∨ k = 3
    · rw [if_pos h1] at h
      have hv : v = 0 := by simpa using h
      rcases h1 with h1 | h1 | h1
      · exact .inr (.inl ⟨h1, hv⟩)
      · exact .inr (.inr (.inl ⟨h1, hv⟩))
      · exact .inr (.inr (.inr ⟨h1, hv⟩))
    · rw [if_neg h1] at h
      cases h
end Go.Proofs.YtndoodiimjkojaaGreatDoor
