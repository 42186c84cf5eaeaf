/- Rows whose parts change places, and parts in order that are merged so. -/
import Derived.Test.YtoeahagloobmoaaGreatDoorStabPlain
namespace Go.Proofs.YtoeahagloobmoaaGreatDoor
/-- Two parts of one length change. -/
def swr (a : Rw) (x y k : Nat) : Rw := fun p => if x ≤ p ∧ p < x + k then a (p + (y - x)) else if y ≤ p ∧ p < y + k then a (p - (y - x)) else a p
theorem swr_none (a : Rw) (x y : Nat) : swr a x y 0 = a := by
  funext p
  unfold swr
  rw [if_neg (by omega), if_neg (by omega)]
theorem swr_more (a : Rw) (x y i : Nat) (h : x + i < y) : swp (swr a x y i) (x + i) (y + i) = swr a x y (i + 1) := by
  funext p
  unfold swp
  by_cases h1 : p = x + i
  · rw [if_pos h1]
    unfold swr
    rw [if_neg (by omega), if_neg (by omega), if_pos (by omega)]
    congr 1
    omega
  · rw [if_neg h1]
    by_cases h2 : p = y + i
    · rw [if_pos h2]
      unfold swr
      rw [if_neg (by omega), if_neg (by omega), if_neg (by omega), if_pos (by omega)]
      congr 1
      omega
    · rw [if_neg h2]
      unfold swr
      by_cases h3 : x ≤ p ∧ p < x + i
      · rw [if_pos h3, if_pos (by omega)]
      · rw [if_neg h3]
        by_cases h4 : y ≤ p ∧ p < y + i
        · rw [if_pos h4, if_neg (by omega), if_pos (by omega)]
        · rw [if_neg h4, if_neg (by omega), if_neg (by omega)]
/-- Two parts, one behind the other, change. -/
def rot (a : Rw) (s m e : Nat) : Rw := fun p => if s ≤ p ∧ p < s + (e - m) then a (p + (m - s)) else if s + (e - m) ≤ p ∧ p < e then a (p - (e - m)) else a p
theorem rot_great (a : Rw) (m i j : Nat) (hi : i ≤ m) (h : j < i) : rot (swr a (m - i) m j) (m - (i - j)) m (m + j) = rot a (m - i) m (m + j) := by
  funext p
  by_cases c1 : m - i ≤ p ∧ p < m - i + j
  · have e1 : rot a (m - i) m (m + j) p = a (p + i) := by
      unfold rot
      rw [if_pos (by omega)]
      congr 1
      omega
    have e2 : rot (swr a (m - i) m j) (m - (i - j)) m (m + j) p = swr a (m - i) m j p := by
      unfold rot
      rw [if_neg (by omega), if_neg (by omega)]
    rw [e1, e2]
    unfold swr
    rw [if_pos c1]
    congr 1
    omega
  · by_cases c2 : m - i + j ≤ p ∧ p < m + j
    · have e1 : rot a (m - i) m (m + j) p = a (p - j) := by
        unfold rot
        rw [if_neg (by omega), if_pos (by omega)]
        congr 1
        omega
      rw [e1]
      by_cases c3 : p < m - (i - j) + j
      · have e2 : rot (swr a (m - i) m j) (m - (i - j)) m (m + j) p = swr a (m - i) m j (p + (i - j)) := by
          unfold rot
          rw [if_pos (by omega)]
          congr 1
          omega
        rw [e2]
        unfold swr
        rw [if_neg (by omega), if_pos (by omega)]
        congr 1
        omega
      · have e2 : rot (swr a (m - i) m j) (m - (i - j)) m (m + j) p = swr a (m - i) m j (p - j) := by
          unfold rot
          rw [if_neg (by omega), if_pos (by omega)]
          congr 1
          omega
        rw [e2]
        unfold swr
        rw [if_neg (by omega), if_neg (by omega)]
    · have e1 : rot a (m - i) m (m + j) p = a p := by
        unfold rot
        rw [if_neg (by omega), if_neg (by omega)]
      have e2 : rot (swr a (m - i) m j) (m - (i - j)) m (m + j) p = swr a (m - i) m j p := by
        unfold rot
        rw [if_neg (by omega), if_neg (by omega)]
      rw [e1, e2]
      unfold swr
      rw [if_neg (by omega), if_neg (by omega)]
theorem rot_less (a : Rw) (m i j : Nat) (hi : i ≤ m) (h : i < j) : rot (swr a (m - i) (m + j - i) i) (m - i) m (m + (j - i)) = rot a (m - i) m (m + j) := by
  funext p
  by_cases c1 : m - i ≤ p ∧ p < m - i + j
  · have e1 : rot a (m - i) m (m + j) p = a (p + i) := by
      unfold rot
      rw [if_pos (by omega)]
      congr 1
      omega
    rw [e1]
    by_cases c2 : p < m - i + (j - i)
    · have e2 : rot (swr a (m - i) (m + j - i) i) (m - i) m (m + (j - i)) p = swr a (m - i) (m + j - i) i (p + i) := by
        unfold rot
        rw [if_pos (by omega)]
        congr 1
        omega
      rw [e2]
      unfold swr
      rw [if_neg (by omega), if_neg (by omega)]
    · by_cases c3 : p < m + (j - i)
      · have e2 : rot (swr a (m - i) (m + j - i) i) (m - i) m (m + (j - i)) p = swr a (m - i) (m + j - i) i (p - (j - i)) := by
          unfold rot
          rw [if_neg (by omega), if_pos (by omega)]
          congr 1
          omega
        rw [e2]
        unfold swr
        rw [if_pos (by omega)]
        congr 1
        omega
      · omega
  · by_cases c2 : m - i + j ≤ p ∧ p < m + j
    · have e1 : rot a (m - i) m (m + j) p = a (p - j) := by
        unfold rot
        rw [if_neg (by omega), if_pos (by omega)]
        congr 1
        omega
      have e2 : rot (swr a (m - i) (m + j - i) i) (m - i) m (m + (j - i)) p = swr a (m - i) (m + j - i) i p := by
        unfold rot
        rw [if_neg (by omega), if_neg (by omega)]
      rw [e1, e2]
      unfold swr
      rw [if_neg (by omega), if_pos (by omega)]
      congr 1
      omega
    · have e1 : rot a (m - i) m (m + j) p = a p := by
        unfold rot
        rw [if_neg (by omega), if_neg (by omega)]
      have e2 : rot (swr a (m - i) (m + j - i) i) (m - i) m (m + (j - i)) p = swr a (m - i) (m + j - i) i p := by
        unfold rot
        rw [if_neg (by omega), if_neg (by omega)]
      rw [e1, e2]
      unfold swr
      rw [if_neg (by omega), if_neg (by omega)]
theorem rot_even (a : Rw) (m i : Nat) (hi : i ≤ m) : swr a (m - i) m i = rot a (m - i) m (m + i) := by
  funext p
  unfold swr rot
  by_cases c1 : m - i ≤ p ∧ p < m - i + i
  · rw [if_pos c1, if_pos (by omega)]
  · by_cases c2 : m ≤ p ∧ p < m + i
    · rw [if_neg c1, if_pos c2, if_neg (by omega), if_pos (by omega)]
      congr 1
      omega
    · rw [if_neg c1, if_neg c2, if_neg (by omega), if_neg (by omega)]
theorem rot_left (a : Rw) (m e : Nat) : rot a m m e = a := by
  funext p
  unfold rot
  by_cases c1 : m ≤ p ∧ p < m + (e - m)
  · rw [if_pos c1]
    congr 1
    omega
  · rw [if_neg c1, if_neg (by omega)]
theorem rot_right (a : Rw) (s m : Nat) : rot a s m m = a := by
  funext p
  unfold rot
  rw [if_neg (by omega)]
  by_cases c1 : s + (m - m) ≤ p ∧ p < m
  · rw [if_pos c1]
    congr 1
    omega
  · rw [if_neg c1]
theorem rot_in (a : Rw) (s k : Nat) (h : s ≤ k) : swp (rot a s (s + 1) (k + 1)) k (k + 1) = rot a s (s + 1) (k + 2) := by
  funext p
  unfold swp rot
  by_cases c1 : p = k
  · rw [if_pos c1, if_neg (by omega), if_neg (by omega), if_pos (by omega)]
    congr 1
    omega
  · rw [if_neg c1]
    by_cases c2 : p = k + 1
    · rw [if_pos c2, if_neg (by omega), if_pos (by omega), if_neg (by omega), if_pos (by omega)]
      congr 1
      omega
    · rw [if_neg c2]
      by_cases c3 : s ≤ p ∧ p < s + (k + 1 - (s + 1))
      · rw [if_pos c3, if_pos (by omega)]
      · rw [if_neg c3]
        by_cases c4 : s + (k + 1 - (s + 1)) ≤ p ∧ p < k + 1
        · omega
        · rw [if_neg c4, if_neg (by omega), if_neg (by omega)]
theorem rot_out (a : Rw) (k m : Nat) (h : k < m) : swp (rot a (k + 1) m (m + 1)) (k + 1) k = rot a k m (m + 1) := by
  funext p
  unfold swp rot
  by_cases c1 : p = k + 1
  · rw [if_pos c1, if_neg (by omega), if_neg (by omega), if_neg (by omega), if_pos (by omega)]
    congr 1
    omega
  · rw [if_neg c1]
    by_cases c2 : p = k
    · rw [if_pos c2, if_pos (by omega), if_pos (by omega)]
      congr 1
      omega
    · rw [if_neg c2, if_neg (by omega)]
      by_cases c4 : k + 1 + (m + 1 - m) ≤ p ∧ p < m + 1
      · rw [if_pos c4, if_neg (by omega), if_pos (by omega)]
      · rw [if_neg c4, if_neg (by omega), if_neg (by omega)]
/-- Where all of the second part belong ahead of all of the first one. -/
theorem rot_fine {L : Nat → Nat → Prop} (hL : Tot L) (a : Rw) (s m e : Nat) (h1 : s ≤ m) (h2 : m ≤ e) (h : ∀ p q, s ≤ p → p < m → m ≤ q → q < e → L (a q) (a p)) : Fine L s e a (rot a s m e) := by
  have hσ : ∀ p, rot a s m e p = a (if s ≤ p ∧ p < s + (e - m) then p + (m - s) else if s + (e - m) ≤ p ∧ p < e then p - (e - m) else p) := by
    intro p
    unfold rot
    split
    · rfl
    · split <;> rfl
  refine ⟨fun p => if s ≤ p ∧ p < s + (e - m) then p + (m - s) else if s + (e - m) ≤ p ∧ p < e then p - (e - m) else p, ?_, ?_, ?_, hσ, ?_⟩
  · intro p a1 a2
    simp only
    split
    · omega
    · split <;> omega
  · intro p hp
    simp only
    rw [if_neg (by omega), if_neg (by omega)]
  · intro p q eq
    simp only at eq
    split at eq <;> split at eq <;> (try split at eq) <;> (try split at eq) <;> omega
  · intro p q hpq hl
    rw [hσ p, hσ q] at hl
    simp only
    by_cases c1 : s ≤ p ∧ p < s + (e - m)
    · rw [if_pos c1] at hl ⊢
      by_cases c2 : s ≤ q ∧ q < s + (e - m)
      · rw [if_pos c2]
        omega
      · rw [if_neg c2] at hl ⊢
        by_cases c3 : s + (e - m) ≤ q ∧ q < e
        · rw [if_pos c3] at hl
          exact (hL.asym hl (h _ _ (by omega) (by omega) (by omega) (by omega))).elim
        · rw [if_neg c3]
          omega
    · rw [if_neg c1]
      by_cases c3 : s + (e - m) ≤ p ∧ p < e
      · rw [if_pos c3, if_neg (by omega)]
        split <;> omega
      · rw [if_neg c3]
        split
        · omega
        · split <;> omega
end Go.Proofs.YtoeahagloobmoaaGreatDoor
