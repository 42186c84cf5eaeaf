/- The places at which a text's characters begin: plain lemmas. -/
import Derived.Test.YtppkilblkobkhaaGreatDoorLive
import Derived.Test.YtppkilblkobkhaaGreatDoorBytesPlain
namespace Go.Proofs.YtppkilblkobkhaaGreatDoor
open Go.RowKit
theorem width_le (s : ByteArray) (pos : Nat) (hp : pos < s.size) : pos + (Utf8.decode s pos).2 ≤ s.size := by
  rw [Lib.decode_at]
  unfold Lib.decodeN
  repeat' split
  all_goals (simp only; omega)
/-- The place behind a character. -/
def stepAt (s : ByteArray) (p : Nat) : Nat := if p < s.size then p + (Utf8.decode s p).2 else p
/-- Where the k-th character begins, or the end. -/
def posAt (s : ByteArray) : Nat → Nat
  | 0 => 0
  | k + 1 => stepAt s (posAt s k)
theorem step_gt (s : ByteArray) (p : Nat) (h : p < s.size) : p < stepAt s p ∧ stepAt s p ≤ s.size := by
  have h1 := width_pos s p h
  have h2 := width_le s p h
  unfold stepAt
  rw [if_pos h]
  omega
theorem posAt_le (s : ByteArray) : ∀ k, posAt s k ≤ s.size
  | 0 => Nat.zero_le _
  | k + 1 => by
    have ih := posAt_le s k
    unfold posAt
    by_cases h : posAt s k < s.size
    · exact (step_gt s _ h).2
    · unfold stepAt; rw [if_neg h]; exact ih
theorem posAt_end (s : ByteArray) (k : Nat) (h : ¬ posAt s k < s.size) : ∀ d, posAt s (k + d) = s.size
  | 0 => by have := posAt_le s k; show posAt s k = s.size; omega
  | d + 1 => by
    have ih := posAt_end s k h d
    show stepAt s (posAt s (k + d)) = s.size
    unfold stepAt
    rw [ih, if_neg (Nat.lt_irrefl _)]
theorem posAt_end' (s : ByteArray) (k j : Nat) (h : ¬ posAt s k < s.size) (hj : k ≤ j) : posAt s j = s.size := by
  rw [show j = k + (j - k) by omega]; exact posAt_end s k h _
theorem posAt_ge (s : ByteArray) : ∀ k, (∀ j, j < k → posAt s j < s.size) → k ≤ posAt s k
  | 0, _ => Nat.zero_le _
  | k + 1, h => by
    have ih := posAt_ge s k (fun j hj => h j (by omega))
    have := (step_gt s (posAt s k) (h k (by omega))).1
    show k + 1 ≤ stepAt s (posAt s k)
    omega
theorem posAt_mono (s : ByteArray) (j : Nat) : ∀ d, posAt s j ≤ posAt s (j + d)
  | 0 => Nat.le_refl _
  | d + 1 => by
    have ih := posAt_mono s j d
    show posAt s j ≤ stepAt s (posAt s (j + d))
    unfold stepAt
    split <;> omega
theorem posAt_mono' (s : ByteArray) (j k : Nat) (h : j ≤ k) : posAt s j ≤ posAt s k := by
  rw [show k = j + (k - j) by omega]; exact posAt_mono s j _
/-- How many characters there are from a place on. -/
def cntFrom (s : ByteArray) : Nat → Nat → Nat
  | 0, _ => 0
  | f + 1, p => if p < s.size then cntFrom s f (p + (Utf8.decode s p).2) + 1 else 0
def countN (s : ByteArray) : Nat := cntFrom s (s.size + 1) 0
theorem cntFrom_is (s : ByteArray) : ∀ (f k : Nat), s.size < posAt s k + f → (∀ j, j < cntFrom s f (posAt s k) → posAt s (k + j) < s.size) ∧ ¬ posAt s (k + cntFrom s f (posAt s k)) < s.size
  | 0, k, h => by have := posAt_le s k; omega
  | f + 1, k, h => by
    unfold cntFrom
    by_cases hp : posAt s k < s.size
    · rw [if_pos hp]
      have e : posAt s (k + 1) = posAt s k + (Utf8.decode s (posAt s k)).2 := by show stepAt s (posAt s k) = _; unfold stepAt; rw [if_pos hp]
      have hw := width_pos s _ hp
      have ih := cntFrom_is s f (k + 1) (by omega)
      rw [e] at ih
      refine ⟨fun j hj => ?_, ?_⟩
      · cases j with
        | zero => exact hp
        | succ j => have := ih.1 j (by omega); rw [show k + 1 + j = k + (j + 1) by omega] at this; exact this
      · have := ih.2; rw [show ∀ c, k + 1 + c = k + (c + 1) from fun c => by omega] at this; exact this
    · rw [if_neg hp]
      exact ⟨fun j hj => by omega, hp⟩
theorem countN_lt (s : ByteArray) (j : Nat) (h : j < countN s) : posAt s j < s.size := by
  have := (cntFrom_is s (s.size + 1) 0 (by show s.size < 0 + (s.size + 1); omega)).1 j h
  rw [Nat.zero_add] at this; exact this
theorem countN_end (s : ByteArray) : posAt s (countN s) = s.size := by
  have := (cntFrom_is s (s.size + 1) 0 (by show s.size < 0 + (s.size + 1); omega)).2
  have h := posAt_le s (countN s)
  rw [Nat.zero_add] at this
  have e : cntFrom s (s.size + 1) (posAt s 0) = countN s := rfl
  rw [e] at this
  omega
theorem countN_le (s : ByteArray) : countN s ≤ s.size := by
  have := posAt_ge s (countN s) (fun j hj => countN_lt s j hj)
  rw [countN_end] at this; exact this
theorem countN_of (s : ByteArray) (k : Nat) (h1 : ∀ j, j < k → posAt s j < s.size) (h2 : ¬ posAt s k < s.size) : countN s = k := by
  rcases Nat.lt_trichotomy (countN s) k with h | h | h
  · have := h1 _ h; rw [countN_end] at this; omega
  · exact h
  · exact absurd (countN_lt s k h) h2
end Go.Proofs.YtppkilblkobkhaaGreatDoor
