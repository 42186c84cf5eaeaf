/- The places at which a text's characters begin: plain lemmas. -/
import Derived.Test.YtfgifocgkiploaaGreatDoorLive
import Derived.Test.YtfgifocgkiploaaGreatDoorBytesPlain
namespace Go.Proofs.YtfgifocgkiploaaGreatDoor
open Go.RowKit
theorem width_le (s : ByteArray) (pos : Nat) (hp : pos < s.size) : pos + (Utf8.decode s pos).2 ≤ s.size := by
  rw [Lib.decode_at]
  unfold Lib.decodeN
  repeat' split
  all_goals (simp only; omega)
/-- The place behind a character. -/
def stepAt (s : ByteArray) (p : Nat) : Nat := if p < s.size then p + (Utf8.decode s p).2 else p
/-- Where the k-th character begins, or the end. -/
def posAt (s : ByteArray) : Nat → Nat
  | 0 => 0
  | k + 1 => stepAt s (posAt s k)
theorem step_gt (s : ByteArray) (p : Nat) (h : p < s.size) : p < stepAt s p ∧ stepAt s p ≤ s.size := by
  have h1 := width_pos s p h
  have h2 := width_le s p h
  unfold stepAt
  rw [if_pos h]
  omega
theorem posAt_le (s : ByteArray) : ∀ k, posAt s k ≤ s.size
  | 0 => Nat.zero_le _
  | k + 1 => by
    have ih := posAt_le s k
    unfold posAt
    by_cases h : posAt s k < s.size
    · exact (step_gt s _ h).2
    · unfold stepAt; rw [if_neg h]; exact ih
theorem posAt_end (s : ByteArray) (k : Nat) (h : ¬ posAt s k < s.size) : ∀ d, posAt s (k + d) = s.size
  | 0 => by have := posAt_le s k; show posAt s k = s.size; omega
  | d + 1 => by
    have ih := posAt_end s k h d
    show stepAt s (posAt s (k + d)) = s.size
    unfold stepAt
    rw [ih, if_neg (Nat.lt_irrefl _)]
theorem posAt_end' (s : ByteArray) (k j : Nat) (h : ¬ posAt s k < s.size) (hj : k ≤ j) : posAt s j = s.size := by
  rw [show j = k + (j - k) by omega]; exact posAt_end s k h _
theorem posAt_ge (s : ByteArray) : ∀ k, (∀ j, j < k → posAt s j < s.size) → k ≤ posAt s k
  | 0, _ => Nat.zero_le _
  | k + 1, h => by
    have ih := posAt_ge s k (fun j hj => h j (by omega))
    have := (step_gt s (posAt s k) (h k (by omega))).1
    show k + 1 ≤ stepAt s (posAt s k)
    omega
theorem posAt_mono (s : ByteArray) (j : Nat) : ∀ d, posAt s j ≤ posAt s (j + d)
  | 0 => Nat.le_refl _
  | d + 1 => by
    have ih := posAt_mono s j d
    show posAt s j ≤ stepAt s (posAt s (j + d))
    unfold stepAt
    split <;> omega
theorem posAt_mono' (s : ByteArray) (j k : Nat) (h : j ≤ k) : posAt s j ≤ posAt s k := by
  rw [show k = j + (k - j) by omega]; exact posAt_mono s j _
/-- How many characters there are from a place on. -/
def cntFrom (s : ByteArray) : Nat → Nat → Nat
  | 0, _ => 0
  | f + 1, p => if p < s.size then cntFrom s f (p + (Utf8.decode s p).2) + 1 else 0
def countN (s : ByteArray) : Nat := cntFrom s (s.size + 1) 0
theorem cntFrom_is (s : ByteArray) : ∀ (f k : Nat), s.size < posAt s k + f → (∀ j, j < cntFrom s f (posAt s k) → posAt s (k + j) < s.size) ∧ ¬ posAt s (k + cntFrom s f (posAt s k)) < s.size
  | 0, k, h => by have := posAt_le s k; omega
  | f + 1, k, h => by
    unfold cntFrom
    by_cases hp : posAt s k < s.size
    · rw [if_pos hp]
      have e : posAt s (k + 1) = posAt s k + (Utf8.decode s (posAt s k)).2 := by show stepAt s (posAt s k) = _; unfold stepAt; rw [if_pos hp]
      have hw := width_pos s _ hp
      have ih := cntFrom_is s f (k + 1) (by omega)
      rw [e] at ih
      refine ⟨fun j hj => ?_, ?_⟩
      · cases j with
        | zero => exact hp
        | succ j => have := ih.1 j (by omega); rw [show k + 1 + j = k + (j + 1) by omega] at this; exact this
      · have := ih.2; rw [show ∀ c, k + 1 + c = k + (c + 1) from fun c => by omega] at this; exact this
    · rw [if_neg hp]
      exact ⟨fun j hj => by omega, hp⟩
theorem countN_lt (s : ByteArray) (j : Nat) (h : j < countN s) : posAt s j < s.size := by
  have := (cntFrom_is s (s.size + 1) 0 (by show s.size < 0 + (s.size + 1); omega)).1 j h
  rw [Nat.zero_add] at this; exact this
theorem countN_end (s : ByteArray) : posAt s (countN s) = s.size := by
  have := (cntFrom_is s (s.size + 1) 0 (by show s.size < 0 + (s.size + 1); omega)).2
  have h := posAt_le s (countN s)
  rw [Nat.zero_add] at this
  have e : cntFrom s (s.size + 1) (posAt s 0) = countN s := rfl
  rw [e] at this
  omega
theorem countN_le (s : ByteArray) : countN s ≤ s.size := by
  have := posAt_ge s (countN s) (fun j hj => countN_lt s j hj)
  rw [countN_end] at this; exact this
theorem countN_of (s : ByteArray) (k : Nat) (h1 : ∀ j, j < k → posAt s j < s.size) (h2 : ¬ posAt s k < s.size) : countN s = k := by
  rcases Nat.lt_trichotomy (countN s) k with h | h | h
  · have := h1 _ h; rw [countN_end] at this; omega
  · exact h
  · exact absurd (countN_lt s k h) h2
/-- A text cut off behind a character is decoded as before up to there. -/
theorem decodeN_cut (n m b0 b1 b2 b3 c1 c2 c3 : Nat) (hm : 1 ≤ m) (hmn : m ≤ n) (hw : (Lib.decodeN n b0 b1 b2 b3).2 ≤ m) (h1 : 1 < m → c1 = b1) (h2 : 2 < m → c2 = b2) (h3 : 3 < m → c3 = b3) :
    Lib.decodeN m b0 c1 c2 c3 = Lib.decodeN n b0 b1 b2 b3 := by
  by_cases m3 : 3 < m
  · rw [h1 (by omega), h2 (by omega), h3 m3]
    unfold Lib.decodeN
    have a1 : (1 < m) = (1 < n) := propext ⟨fun _ => by omega, fun _ => by omega⟩
    have a2 : (2 < m) = (2 < n) := propext ⟨fun _ => by omega, fun _ => by omega⟩
    have a3 : (3 < m) = (3 < n) := propext ⟨fun _ => by omega, fun _ => by omega⟩
    simp only [a1, a2, a3]
  · revert hw
    by_cases m2 : 2 < m
    · rw [h1 (by omega), h2 m2]
      unfold Lib.decodeN
      repeat' split
      all_goals (intro hw; first | (exfalso; simp only at hw; omega) | rfl)
    · by_cases m1 : 1 < m
      · rw [h1 m1]
        unfold Lib.decodeN
        repeat' split
        all_goals (intro hw; first | (exfalso; simp only at hw; omega) | rfl)
      · unfold Lib.decodeN
        repeat' split
        all_goals (intro hw; first | (exfalso; simp only at hw; omega) | rfl)
theorem get_cut (s : ByteArray) (p i : Nat) (hp : p ≤ s.size) (hi : i < p) : (s.extract 0 p).get! i = s.get! i := by
  have z : (s.extract 0 p).size = p := by rw [ByteArray.size_extract]; omega
  rw [get_data _ i (by omega), get_data s i (by omega)]
  simp [ByteArray.data_extract]
theorem decode_cut (s : ByteArray) (p q : Nat) (hp : p ≤ s.size) (hq : q < p) (hw : q + (Utf8.decode s q).2 ≤ p) : Utf8.decode (s.extract 0 p) q = Utf8.decode s q := by
  have z : (s.extract 0 p).size = p := by rw [ByteArray.size_extract]; omega
  rw [Lib.decode_at] at hw
  rw [Lib.decode_at, Lib.decode_at, z, get_cut s p q hp hq]
  refine decodeN_cut _ _ _ _ _ _ _ _ _ (by omega) (by omega) (by omega) (fun h => ?_) (fun h => ?_) (fun h => ?_)
  · rw [get_cut s p (q + 1) hp (by omega)]
  · rw [get_cut s p (q + 2) hp (by omega)]
  · rw [get_cut s p (q + 3) hp (by omega)]
theorem posAt_cut (s : ByteArray) (n : Nat) (hn : n ≤ countN s) : ∀ j, j ≤ n → posAt (s.extract 0 (posAt s n)) j = posAt s j
  | 0, _ => rfl
  | j + 1, hj => by
    have ih := posAt_cut s n hn j (by omega)
    have z : (s.extract 0 (posAt s n)).size = posAt s n := by have := posAt_le s n; rw [ByteArray.size_extract]; omega
    have hlt := countN_lt s j (by omega)
    have hst := step_gt s (posAt s j) hlt
    have hle := posAt_mono' s (j + 1) n hj
    have e : posAt s (j + 1) = stepAt s (posAt s j) := rfl
    have hw : posAt s j + (Utf8.decode s (posAt s j)).2 ≤ posAt s n := by rw [e] at hle; unfold stepAt at hle; rw [if_pos hlt] at hle; exact hle
    show stepAt (s.extract 0 (posAt s n)) (posAt (s.extract 0 (posAt s n)) j) = stepAt s (posAt s j)
    rw [ih]
    unfold stepAt
    rw [z, if_pos (by omega), if_pos hlt, decode_cut s _ _ (posAt_le s n) (by omega) hw]
theorem countN_cut (s : ByteArray) (n : Nat) (hn : n ≤ countN s) : countN (s.extract 0 (posAt s n)) = n := by
  have z : (s.extract 0 (posAt s n)).size = posAt s n := by have := posAt_le s n; rw [ByteArray.size_extract]; omega
  apply countN_of
  · intro j hj
    rw [posAt_cut s n hn j (by omega), z]
    have h1 := (step_gt s (posAt s j) (countN_lt s j (by omega))).1
    have h2 := posAt_mono' s (j + 1) n (by omega)
    have e : posAt s (j + 1) = stepAt s (posAt s j) := rfl
    omega
  · rw [posAt_cut s n hn n (Nat.le_refl _), z]; omega
end Go.Proofs.YtfgifocgkiploaaGreatDoor
