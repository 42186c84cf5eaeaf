/- The order of numbers that are right, in plain terms. -/
import Derived.Test.YtigbaoadnonjfaaGreatDoorNumOrder
namespace Go.Proofs.YtigbaoadnonjfaaGreatDoor
open Go.RowKit
/-- Where a right number stands among all. -/
def keyN (k v : Int) : Int := if k = 1 then -3000000000000000000 else if k = 3 then -2000000000000000000 else if k = 2 then 2000000000000000000 else v
theorem right_cases {k v : Int} (h : rightB k v = true) : (k = 0 ∧ -1000000000000000000 ≤ v ∧ v ≤ 1000000000000000000) ∨ (k = 1 ∧ v = 0) ∨ (k = 2 ∧ v = 0) ∨ (k = 3 ∧ v = 0) := by
  unfold rightB at h
  by_cases h0 : k = 0
  · rw [if_pos h0] at h
    simp only [Bool.and_eq_true, decide_eq_true_eq] at h
    exact .inl ⟨h0, h.1, h.2⟩
  · rw [if_neg h0] at h
    by_cases h1 : k = 1 ∨ k = 2 ∨ k = 3
    · rw [if_pos h1] at h
      have hv : v = 0 := by simpa using h
      rcases h1 with h1 | h1 | h1
      · exact .inr (.inl ⟨h1, hv⟩)
      · exact .inr (.inr (.inl ⟨h1, hv⟩))
      · exact .inr (.inr (.inr ⟨h1, hv⟩))
    · rw [if_neg h1] at h
      cases h
theorem cmpN_neg (x y : Int) : decide (cmpN x y < 0) = decide (x < y) := by
  unfold cmpN
  by_cases h : x < y
  · simp [h]
  · rw [if_neg h]
    by_cases h2 : y < x <;> simp [h, h2]
theorem cmpN_pos (x y : Int) : decide (0 < cmpN x y) = decide (y < x) := by
  unfold cmpN
  by_cases h : x < y
  · rw [if_pos h]
    have : ¬ y < x := by omega
    simp [this]
  · rw [if_neg h]
    by_cases h2 : y < x <;> simp [h2]
theorem less_key {k v l u : Int} (h1 : rightB k v = true) (h2 : rightB l u = true) : lessB k v l u = decide (keyN k v < keyN l u) := by
  unfold lessB cmpV
  rcases right_cases h1 with ⟨rfl, a1, a2⟩ | ⟨rfl, rfl⟩ | ⟨rfl, rfl⟩ | ⟨rfl, rfl⟩ <;> rcases right_cases h2 with ⟨rfl, b1, b2⟩ | ⟨rfl, rfl⟩ | ⟨rfl, rfl⟩ | ⟨rfl, rfl⟩
  all_goals simp [infB, rankN, keyN, cmpN_neg]
  all_goals (try decide)
  all_goals (try omega)
theorem key_inj {k v l u : Int} (h1 : rightB k v = true) (h2 : rightB l u = true) (h : keyN k v = keyN l u) : k = l ∧ v = u := by
  rcases right_cases h1 with ⟨rfl, a1, a2⟩ | ⟨rfl, rfl⟩ | ⟨rfl, rfl⟩ | ⟨rfl, rfl⟩ <;> rcases right_cases h2 with ⟨rfl, b1, b2⟩ | ⟨rfl, rfl⟩ | ⟨rfl, rfl⟩ | ⟨rfl, rfl⟩
  all_goals simp [keyN] at h
  all_goals first | exact ⟨rfl, rfl⟩ | exact ⟨rfl, h⟩ | omega
end Go.Proofs.YtigbaoadnonjfaaGreatDoor
