/- Digits as numbers: what is written is read. -/
import Derived.Test.YtmaefnmjfkbplaaGreatDoorNumPad
namespace Go.Proofs.YtmaefnmjfkbplaaGreatDoor
open Go.RowKit
def digB (b : UInt8) : Bool := decide (48 ≤ b.toNat) && decide (b.toNat ≤ 57)
def digN (b : UInt8) : Nat := b.toNat - 48
/-- The number of some digits behind another one. -/
def valL (n : Nat) (l : List UInt8) : Nat := l.foldl (fun n b => n * 10 + digN b) n
/-- .. read till it is too great. -/
def readL : Nat → List UInt8 → Nat
  | n, [] => n
  | n, c :: r => if 1000000000000000000 < n * 10 + digN c then n * 10 + digN c else readL (n * 10 + digN c) r
theorem valL_cons (n : Nat) (c : UInt8) (l : List UInt8) : valL n (c :: l) = valL (n * 10 + digN c) l := by simp only [valL, List.foldl_cons]
theorem valL_ge : ∀ (l : List UInt8) (n : Nat), n ≤ valL n l
  | [], n => Nat.le_refl _
  | c :: l, n => by
    rw [valL_cons]
    have := valL_ge l (n * 10 + digN c)
    omega
theorem readL_val : ∀ (l : List UInt8) (n : Nat), valL n l ≤ 1000000000000000000 → readL n l = valL n l
  | [], n, _ => rfl
  | c :: l, n, h => by
    rw [valL_cons] at h ⊢
    have := valL_ge l (n * 10 + digN c)
    rw [readL, if_neg (by omega)]
    exact readL_val l _ h
theorem valL_append (n : Nat) (l m : List UInt8) : valL n (l ++ m) = valL (valL n l) m := by simp [valL]
theorem valL_shift : ∀ (l : List UInt8) (n : Nat), valL n l = n * 10 ^ l.length + valL 0 l
  | [], n => by simp [valL]
  | c :: l, n => by
    rw [valL_cons, valL_cons, valL_shift l (n * 10 + digN c), valL_shift l (0 * 10 + digN c), List.length_cons, Nat.pow_succ, Nat.add_mul, Nat.mul_assoc, Nat.mul_comm 10 (10 ^ l.length), Nat.zero_mul, Nat.zero_add]
    omega
theorem digN_of (d : Nat) (h : d < 10) : digN (UInt8.ofNat (48 + d)) = d ∧ digB (UInt8.ofNat (48 + d)) = true := by
  have e : (UInt8.ofNat (48 + d)).toNat = 48 + d := by rw [UInt8.toNat_ofNat']; omega
  unfold digN digB
  rw [e]
  exact ⟨by omega, by simp; omega⟩
theorem dec_all (q : Nat) : valL 0 (Lib.decDigits q) = q ∧ (Lib.decDigits q).all digB = true ∧ Lib.decDigits q ≠ [] := by
  induction q using Nat.strongRecOn with
  | _ q ih =>
    rw [Lib.decDigits]
    by_cases h : q < 10
    · rw [dif_pos h]
      obtain ⟨h1, h2⟩ := digN_of q h
      refine ⟨?_, ?_, by simp⟩
      · rw [valL_cons, h1]; simp [valL]
      · rw [List.all_cons, h2]; rfl
    · rw [dif_neg h]
      obtain ⟨i1, i2, i3⟩ := ih (q / 10) (by omega)
      obtain ⟨h1, h2⟩ := digN_of (q % 10) (by omega)
      refine ⟨?_, ?_, by simp⟩
      · rw [valL_append, i1, valL_cons, h1]
        show q / 10 * 10 + q % 10 = q
        omega
      · rw [List.all_append, i2, List.all_cons, h2]; rfl
theorem dec_len : ∀ (k q : Nat), q < 10 ^ (k + 1) → (Lib.decDigits q).length ≤ k + 1
  | 0, q, h => by
    rw [Lib.decDigits, dif_pos (by simpa using h)]
    simp
  | k + 1, q, h => by
    rw [Lib.decDigits]
    by_cases hq : q < 10
    · rw [dif_pos hq]; simp
    · rw [dif_neg hq]
      have := dec_len k (q / 10) (by rw [Nat.pow_succ] at h; omega)
      simp
      omega
theorem rep_eq (k : Nat) : Lib.repeatL [48] k = List.replicate k 48 := by
  induction k with
  | zero => rfl
  | succ k ih =>
    rw [List.replicate_succ, ← ih]
    simp [Lib.repeatL]
theorem val_rep (n : Nat) : ∀ k, valL n (List.replicate k 48) = n * 10 ^ k
  | 0 => by simp [valL]
  | k + 1 => by
    rw [List.replicate_succ, valL_cons, show digN 48 = 0 from rfl, Nat.add_zero, val_rep (n * 10) k, Nat.pow_succ, Nat.mul_assoc, Nat.mul_comm 10]
/-- Six digits. -/
def sixL (m : Nat) : List UInt8 := List.replicate (6 - (Lib.decDigits m).length) 48 ++ Lib.decDigits m
theorem six_len (m : Nat) (h : m < 1000000) : (sixL m).length = 6 := by
  have := dec_len 5 m h
  unfold sixL
  simp
  omega
theorem six_val (n m : Nat) (h : m < 1000000) : valL n (sixL m) = n * 1000000 + m := by
  rw [valL_shift, six_len m h]
  congr 1
  unfold sixL
  rw [valL_append, val_rep, Nat.zero_mul, (dec_all m).1]
theorem places_six (m : Nat) : placesL m = Lib.trimRightB (sixL m) 48 := by
  unfold placesL sixL
  congr 1
  rw [ByteArray.data_append]
  simp [rep_eq]
theorem trim_split (l : List UInt8) : ∃ k, l = Lib.trimRightB l 48 ++ List.replicate k 48 := by
  unfold Lib.trimRightB
  generalize hr : l.reverse = r
  have hl : l = r.reverse := by rw [← hr, List.reverse_reverse]
  rw [hl]
  clear hl hr
  induction r with
  | nil => exact ⟨0, by simp⟩
  | cons c r ih =>
    by_cases hc : c = 48
    · subst hc
      obtain ⟨k, hk⟩ := ih
      refine ⟨k + 1, ?_⟩
      rw [List.dropWhile_cons_of_pos (by simp), List.reverse_cons, List.replicate_succ', ← List.append_assoc, ← hk]
    · refine ⟨0, ?_⟩
      rw [List.dropWhile_cons_of_neg (by simpa using hc)]
      simp
theorem six_all (m : Nat) : (sixL m).all digB = true := by
  unfold sixL
  rw [List.all_append, (dec_all m).2.1, Bool.and_true]
  simp [digB]
/-- What stands behind the point: digits, six at most, that noughts make six. -/
theorem places_all (m : Nat) (h : m < 1000000) : (placesL m).all digB = true ∧ (placesL m).length ≤ 6 ∧ placesL m ++ List.replicate (6 - (placesL m).length) 48 = sixL m := by
  obtain ⟨k, hk⟩ := trim_split (sixL m)
  rw [← places_six] at hk
  have hl := six_len m h
  have ha := six_all m
  rw [hk, List.length_append, List.length_replicate] at hl
  rw [hk, List.all_append, Bool.and_eq_true] at ha
  refine ⟨ha.1, by omega, ?_⟩
  rw [show 6 - (placesL m).length = k by omega]
  exact hk.symm
/-- The number that is written is read. -/
theorem read_back (q m : Nat) (hm : m < 1000000) (hn : q * 1000000 + m ≤ 1000000000000000000) : readL 0 (Lib.decDigits q ++ (placesL m ++ List.replicate (6 - (placesL m).length) 48)) = q * 1000000 + m := by
  rw [(places_all m hm).2.2]
  have hv : valL 0 (Lib.decDigits q ++ sixL m) = q * 1000000 + m := by rw [valL_append, (dec_all q).1, six_val q m hm]
  rw [readL_val _ _ (by rw [hv]; exact hn), hv]
end Go.Proofs.YtmaefnmjfkbplaaGreatDoor
