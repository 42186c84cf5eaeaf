/- A long division's digit, in plain terms: the guess is never below it, and where it is right. -/
import Derived.Test.YtnpdjddebeipiaaGreatDoorNumDiv64
namespace Go.Proofs.YtnpdjddebeipiaaGreatDoor
/-- The divisor's halves, and what is divided: the rest so far, and the next half. -/
structure Halves (Y Y1 Y0 U V : Nat) : Prop where
  y : Y = Y1 * 4294967296 + Y0
  y0 : Y0 < 4294967296
  y1 : Y1 < 4294967296
  top : 2147483648 ≤ Y1
  u : U < Y
  v : V < 4294967296
theorem Halves.pos {Y Y1 Y0 U V : Nat} (h : Halves Y Y1 Y0 U V) : 0 < Y := by
  obtain ⟨h1, h2, h3, h4, h5, h6⟩ := h
  omega
theorem Halves.lt {Y Y1 Y0 U V : Nat} (h : Halves Y Y1 Y0 U V) : (U * 4294967296 + V) / Y < 4294967296 := by
  have hp := h.pos
  obtain ⟨h1, h2, h3, h4, h5, h6⟩ := h
  rw [Nat.div_lt_iff_lt_mul hp]
  omega
theorem Halves.first {Y Y1 Y0 U V : Nat} (h : Halves Y Y1 Y0 U V) : (U * 4294967296 + V) / Y ≤ U / Y1 ∧ U / Y1 ≤ 4294967297 := by
  have hp := h.pos
  have hq := Nat.div_mul_le_self (U * 4294967296 + V) Y
  obtain ⟨h1, h2, h3, h4, h5, h6⟩ := h
  generalize (U * 4294967296 + V) / Y = q at *
  constructor
  · rw [Nat.le_div_iff_mul_le (by omega)]
    have e : q * Y = q * Y1 * 4294967296 + q * Y0 := by rw [h1, Nat.mul_add, Nat.mul_assoc]
    generalize q * Y0 = a at *
    generalize q * Y1 = c at *
    omega
  · have : U / Y1 < 4294967298 := by
      rw [Nat.div_lt_iff_lt_mul (by omega)]
      omega
    omega
theorem Halves.split {Y Y1 Y0 U V : Nat} (q r : Nat) (h : Halves Y Y1 Y0 U V) (e : U = q * Y1 + r) : q * Y + r * 4294967296 + V = U * 4294967296 + V + q * Y0 := by
  rw [h.y, Nat.mul_add, e, Nat.add_mul, ← Nat.mul_assoc]
  omega
/-- Where the test fails the guess is the digit. -/
theorem Halves.stop {Y Y1 Y0 U V : Nat} (q r : Nat) (h : Halves Y Y1 Y0 U V) (e : U = q * Y1 + r) (hq : (U * 4294967296 + V) / Y ≤ q) (hn : q * Y0 ≤ r * 4294967296 + V) : q = (U * 4294967296 + V) / Y := by
  have hs := h.split q r e
  have : q ≤ (U * 4294967296 + V) / Y := by
    rw [Nat.le_div_iff_mul_le h.pos]
    omega
  omega
theorem lin_down (a c u v : Nat) (hs : a + v = u + c) (hn : v < c) : u < a := by omega
/-- Where it holds the digit is below. -/
theorem Halves.down {Y Y1 Y0 U V : Nat} (q r : Nat) (h : Halves Y Y1 Y0 U V) (e : U = q * Y1 + r) (hn : 4294967296 ≤ q ∨ r * 4294967296 + V < q * Y0) : (U * 4294967296 + V) / Y ≤ q - 1 ∧ 1 ≤ q ∧ U = (q - 1) * Y1 + (r + Y1) := by
  have hs := h.split q r e
  have hl := h.lt
  have hlt : (U * 4294967296 + V) / Y < q := by
    rcases hn with hn | hn
    · exact Nat.lt_of_lt_of_le hl hn
    · rw [Nat.div_lt_iff_lt_mul h.pos]
      exact lin_down (q * Y) (q * Y0) (U * 4294967296 + V) (r * 4294967296 + V) (by rw [← Nat.add_assoc]; exact hs) hn
  have h1 : 1 ≤ q := Nat.lt_of_le_of_lt (Nat.zero_le _) hlt
  refine ⟨Nat.le_sub_one_of_lt hlt, h1, ?_⟩
  clear hlt hl hs hn
  rw [Nat.sub_mul, Nat.one_mul]
  have : Y1 ≤ q * Y1 := Nat.le_mul_of_pos_left _ (by omega)
  omega
/-- A rest of 32 bits and more ends it, too. -/
theorem Halves.wide {Y Y1 Y0 U V : Nat} (q r : Nat) (h : Halves Y Y1 Y0 U V) (e : U = q * Y1 + r) (hq : (U * 4294967296 + V) / Y ≤ q) (hb : q ≤ 4294967296) (hr : 4294967296 ≤ r) : q = (U * 4294967296 + V) / Y := by
  refine h.stop q r e hq ?_
  have h1 : q * Y0 ≤ 4294967296 * Y0 := Nat.mul_le_mul_right _ hb
  have h2 := h.y0
  omega
/-- Two digits are the quotient, shifted or not. -/
theorem two_digits (n y k U V W Y : Nat) (hk : 0 < k) (hy : 0 < y) (hY : Y = y * k) (hN : n * k = (U * 4294967296 + V) * 4294967296 + W) :
    (U * 4294967296 + V) / Y * 4294967296 + ((U * 4294967296 + V) % Y * 4294967296 + W) / Y = n / y ∧ ((U * 4294967296 + V) % Y * 4294967296 + W) % Y / k = n % y := by
  have hp : 0 < Y := by rw [hY]; exact Nat.mul_pos hy hk
  obtain ⟨u, hu⟩ : ∃ u, u = U * 4294967296 + V := ⟨_, rfl⟩
  rw [← hu] at hN ⊢
  have h1 := Nat.div_add_mod u Y
  obtain ⟨q1, hq1⟩ : ∃ q, q = u / Y := ⟨_, rfl⟩
  obtain ⟨r1, hr1⟩ : ∃ r, r = u % Y := ⟨_, rfl⟩
  rw [← hq1, ← hr1] at h1 ⊢
  have hs : n * k = (r1 * 4294967296 + W) + Y * (q1 * 4294967296) := by
    rw [hN, ← h1, Nat.add_mul, Nat.mul_assoc]
    omega
  have hd : n / y = n * k / Y := by rw [hY, Nat.mul_div_mul_right _ _ hk]
  have hm : n % y * k = n * k % Y := by rw [hY, Nat.mul_mod_mul_right]
  constructor
  · rw [hd, hs, Nat.add_mul_div_left _ _ hp]
    omega
  · have : (r1 * 4294967296 + W) % Y = n % y * k := by rw [hm, hs, Nat.add_mul_mod_self_left]
    rw [this, Nat.mul_div_cancel _ hk]
end Go.Proofs.YtnpdjddebeipiaaGreatDoor
