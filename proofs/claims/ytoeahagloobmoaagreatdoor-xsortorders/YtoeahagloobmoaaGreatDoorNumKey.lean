/- The order of numbers that are right, in plain terms. -/
import Derived.Test.YtoeahagloobmoaaGreatDoorNumOrder
namespace Go.Proofs.YtoeahagloobmoaaGreatDoor
open Go.RowKit
/-- Where a right number stands among all. -/
def keyN (k v : Int) : Int := if k = 1 then -3000000000000000000 else if k = 3 then -2000000000000000000 else if k = 2 then 2000000000000000000 else v
theorem cmpN_neg (x y : Int) : decide (cmpN x y < 0) = decide (x < y) := by
  unfold cmpN
  by_cases h : x < y
  · simp [h]
  · rw [if_neg h]
    by_cases h2 : y < x <;> simp [h, h2]
theorem cmpN_pos (x y : Int) : decide (0 < cmpN x y) = decide (y < x) := by
  unfold cmpN
  by_cases h : x < y
  · rw [if_pos h]
    have : ¬ y < x := by omega
    simp [this]
  · rw [if_neg h]
    by_cases h2 : y < x <;> simp [h2]
theorem less_key {k v l u : Int} (h1 : rightB k v = true) (h2 : rightB l u = true) : lessB k v l u = decide (keyN k v < keyN l u) := by
  unfold lessB cmpV
  rcases right_cases h1 with ⟨rfl, a1, a2⟩ | ⟨rfl, rfl⟩ | ⟨rfl, rfl⟩ | ⟨rfl, rfl⟩ <;> rcases right_cases h2 with ⟨rfl, b1, b2⟩ | ⟨rfl, rfl⟩ | ⟨rfl, rfl⟩ | ⟨rfl, rfl⟩
  all_goals simp [infB, rankN, keyN, cmpN_neg]
  all_goals (try decide)
  all_goals (try omega)
theorem key_inj {k v l u : Int} (h1 : rightB k v = true) (h2 : rightB l u = true) (h : keyN k v = keyN l u) : k = l ∧ v = u := by
  rcases right_cases h1 with ⟨rfl, a1, a2⟩ | ⟨rfl, rfl⟩ | ⟨rfl, rfl⟩ | ⟨rfl, rfl⟩ <;> rcases right_cases h2 with ⟨rfl, b1, b2⟩ | ⟨rfl, rfl⟩ | ⟨rfl, rfl⟩ | ⟨rfl, rfl⟩
  all_goals simp [keyN] at h
  all_goals first | exact ⟨rfl, rfl⟩ | exact ⟨rfl, h⟩ | omega
end Go.Proofs.YtoeahagloobmoaaGreatDoor
