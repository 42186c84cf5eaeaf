/- The places at which a text's characters begin: plain lemmas. -/
import Derived.Test.YtppkilblkobkhaaGreatDoorLive
import Derived.Test.YtppkilblkobkhaaGreatDoorBytesPlain
namespace Go.Proofs.YtppkilblkobkhaaGreatDoor
open Go.RowKit
theorem width_le (s : ByteArray) (pos : Nat) (hp : pos < s.size) : pos + (Utf8.decode s pos).2 ≤ s.size := by
  rw [Lib.decode_at]
  unfold Lib.decodeN
  repeat' split
  all_goals (simp only; omega)
/-- The place behind a character. -/
def stepAt (s : ByteArray) (p : Nat) : Nat := if p < s.size then p + (Utf8.decode s p).2 else p
/-- Where the k-th character begins, or the end. -/
def posAt (s : ByteArray) : Nat → Nat
  | 0 => 0
  | k + 1 => stepAt s (posAt s k)
theorem step_gt (s : ByteArray) (p : Nat) (h : p < s.size) : p < stepAt s p ∧ stepAt s p ≤ s.size := by
  have h1 := width_pos s p h
  have h2 := width_le s p h
  unfold stepAt
  rw [if_pos h]
  omega
theorem posAt_le (s : ByteArray) : ∀ k, posAt s k ≤ s.size
  | 0 => Nat.zero_le _
  | k + 1 => by
    have ih := posAt_le s k
    unfold posAt
    by_cases h : posAt s k < s.size
    · exact (step_gt s _ h).2
    · unfold stepAt; rw [if_neg h]; exact ih
theorem posAt_end (s : ByteArray) (k : Nat) (h : ¬ posAt s k < s.size) : ∀ d, posAt s (k + d) = s.size
  | 0 => by have := posAt_le s k; show posAt s k = s.size; omega
  | d + 1 => by
    have ih := posAt_end s k h d
    show stepAt s (posAt s (k + d)) = s.size
    unfold stepAt
    rw [ih, if_neg (Nat.lt_irrefl _)]
theorem posAt_end' (s : ByteArray) (k j : Nat) (h : ¬ posAt s k < s.size) (hj : k ≤ j) : posAt s j = s.size := by
  rw [show j = k + (j - k) by omega]; exact posAt_end s k h _
theorem posAt_ge (s : ByteArray) : ∀ k, (∀ j, j < k → posAt s j < s.size) → k ≤ posAt s k
  | 0, _ => Nat.zero_le _
  | k + 1, h => by
    have ih := posAt_ge s k (fun j hj => h j (by omega))
    have := (step_gt s (posAt s k) (h k (by omega))).1
    show k + 1 ≤ stepAt s (posAt s k)
    omega
theorem posAt_mono (s : ByteArray) (j : Nat) : ∀ d, posAt s j ≤ posAt s (j + d)
  | 0 => Nat.le_refl _
  | d + 1 => by
    have ih := posAt_mono s j d
    show posAt s j ≤ stepAt s (posAt s (j + d))
    unfold stepAt
    split <;> omega
theorem posAt_mono' (s : ByteArray) (j k : Nat) (h : j ≤ k) : posAt s j ≤ posAt s k := by
  rw [show k = j + (k - j) by omega]; exact posAt_mono s j _
end Go.Proofs.YtppkilblkobkhaaGreatDoor
