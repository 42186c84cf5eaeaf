/- Numbers multiplied digit by digit, in plain terms. -/
import Derived.Test.YtnpdjddebeipiaaGreatDoorRecWhole
namespace Go.Proofs.YtnpdjddebeipiaaGreatDoor
/-- What so many places come to. -/
def valF (Z : Nat → Nat) : Nat → Nat
  | 0 => 0
  | n + 1 => valF Z n + Z n * 10 ^ n
theorem valF_zero : ∀ n, valF (fun _ => 0) n = 0
  | 0 => rfl
  | n + 1 => by rw [valF, valF_zero n, Nat.zero_mul]
def addAt (Z : Nat → Nat) (i v : Nat) : Nat → Nat := fun j => if j = i then Z j + v else Z j
theorem valF_same {Z Z' : Nat → Nat} : ∀ n, (∀ j, j < n → Z j = Z' j) → valF Z n = valF Z' n
  | 0, _ => rfl
  | n + 1, h => by rw [valF, valF, valF_same n (fun j hj => h j (by omega)), h n (by omega)]
theorem valF_add (Z : Nat → Nat) (i v : Nat) : ∀ n, i < n → valF (addAt Z i v) n = valF Z n + v * 10 ^ i
  | 0, h => by omega
  | n + 1, h => by
    rw [valF, valF]
    by_cases c : i = n
    · subst c
      rw [valF_same (Z := addAt Z i v) (Z' := Z) i (fun j hj => if_neg (by omega)), show addAt Z i v i = Z i + v from if_pos rfl, Nat.add_mul]
      omega
    · rw [valF_add Z i v n (by omega), show addAt Z i v n = Z n from if_neg (fun e => c e.symm)]
      omega
theorem valD_take (l : List Nat) (k d : Nat) (h : l[k]? = some d) : valD (l.take (k + 1)) = valD (l.take k) + d * 10 ^ k := by
  induction l generalizing k with
  | nil => simp at h
  | cons a l ih =>
    cases k with
    | zero =>
      simp at h
      subst h
      simp [valD]
    | succ k =>
      have := ih k (by simpa using h)
      have e : d * 10 ^ (k + 1) = 10 * (d * 10 ^ k) := by rw [Nat.pow_succ, Nat.mul_comm (10 ^ k) 10, Nat.mul_left_comm]
      rw [List.take_succ_cons, List.take_succ_cons, valD, valD, this, e]
      omega
/-- One product more, at its place. -/
theorem mul_step (Z : Nat → Nat) (N i k a d A B : Nat) (hik : i + k < N) (h : valF Z N = A + a * 10 ^ i * B) : valF (addAt Z (i + k) (a * d)) N = A + a * 10 ^ i * (B + d * 10 ^ k) := by
  rw [valF_add Z (i + k) (a * d) N hik, h, Nat.mul_add, Nat.pow_add]
  have : a * d * (10 ^ i * 10 ^ k) = a * 10 ^ i * (d * 10 ^ k) := by
    rw [Nat.mul_assoc, Nat.mul_assoc, ← Nat.mul_assoc d, Nat.mul_comm d (10 ^ i), Nat.mul_assoc]
  omega
/-- Carry on. -/
def carry (Z : Nat → Nat) (i : Nat) : Nat → Nat := fun j => if j = i then Z i % 10 else if j = i + 1 then Z (i + 1) + Z i / 10 else Z j
theorem valF_carry (Z : Nat → Nat) (i : Nat) : ∀ n, i + 1 < n → valF (carry Z i) n = valF Z n
  | 0, h => by omega
  | n + 1, h => by
    rw [valF, valF]
    by_cases c : i + 1 = n
    · subst c
      rw [valF, valF, valF_same (Z := carry Z i) (Z' := Z) i (fun j hj => by unfold carry; rw [if_neg (by omega), if_neg (by omega)])]
      have e1 : carry Z i i = Z i % 10 := if_pos rfl
      have e2 : carry Z i (i + 1) = Z (i + 1) + Z i / 10 := by
        unfold carry
        rw [if_neg (by omega), if_pos rfl]
      rw [e1, e2, Nat.pow_succ]
      generalize 10 ^ i = p
      have := Nat.div_add_mod (Z i) 10
      have h2 : Z i * p = Z i % 10 * p + Z i / 10 * (p * 10) := by
        rw [← Nat.mul_assoc, Nat.mul_right_comm, ← Nat.add_mul]
        congr 1
        omega
      rw [Nat.add_mul]
      omega
    · rw [valF_carry Z i n (by omega), show carry Z i n = Z n by unfold carry; rw [if_neg (by omega), if_neg (by omega)]]
theorem valF_low (Z : Nat → Nat) : ∀ n, (∀ j, j < n → Z j < 10) → valF Z n < 10 ^ n
  | 0, _ => by show 0 < 1; decide
  | n + 1, h => by
    have h1 := valF_low Z n (fun j hj => h j (by omega))
    have h2 := h n (by omega)
    rw [valF, Nat.pow_succ]
    generalize 10 ^ n = p at *
    have : Z n * p ≤ 9 * p := Nat.mul_le_mul_right p (by omega)
    omega
theorem valF_list (Z : Nat → Nat) : ∀ n a, valF Z (a + n) = valF Z a + 10 ^ a * valD ((List.range n).map fun j => Z (a + j))
  | 0, a => by simp [valD]
  | n + 1, a => by
    rw [List.range_succ_eq_map, List.map_cons, List.map_map, valD, show a + (n + 1) = (a + 1) + n by omega, valF_list Z n (a + 1), valF, Nat.mul_add, Nat.pow_succ, Nat.add_zero]
    have e : ((fun j => Z (a + j)) ∘ Nat.succ) = fun j => Z (a + 1 + j) := by
      funext j
      show Z (a + (j + 1)) = Z (a + 1 + j)
      congr 1
      omega
    have e2 : Z a * 10 ^ a = 10 ^ a * Z (a + 0) := Nat.mul_comm _ _
    rw [e, e2, Nat.mul_assoc]
    omega
/-- The places from the sixth on are what six noughts less is. -/
theorem drop_six (Z : Nat → Nat) (N : Nat) (h : ∀ j, j < N → j < 6 → Z j < 10) (hs : N ≤ 6 → valF Z N < 1000000) : valD (((List.range N).map Z).drop 6) = valF Z N / 1000000 := by
  by_cases c : N ≤ 6
  · rw [List.drop_of_length_le (by simp; exact c), Nat.div_eq_of_lt (hs c)]
    rfl
  · obtain ⟨n, rfl⟩ : ∃ n, N = 6 + n := ⟨N - 6, by omega⟩
    have e : ((List.range (6 + n)).map Z).drop 6 = (List.range n).map fun j => Z (6 + j) := by
      apply List.ext_getElem
      · simp
      · intro i h1 h2
        simp
    have hl := valF_low Z 6 (fun j hj => h j (by omega) hj)
    rw [e, valF_list Z n 6, show (10 : Nat) ^ 6 = 1000000 from rfl, Nat.add_mul_div_left _ _ (by decide)]
    rw [show (10 : Nat) ^ 6 = 1000000 from rfl] at hl
    rw [Nat.div_eq_of_lt hl]
    omega
end Go.Proofs.YtnpdjddebeipiaaGreatDoor
