/- A number of 128 bits by any number: math/bits' Div64, all its words reckoned. -/
import Derived.Test.YtnpdjddebeipiaaGreatDoorNumDivG
import Derived.Test.YtnpdjddebeipiaaGreatDoorShelf
namespace Go.Proofs.YtnpdjddebeipiaaGreatDoor
open Go.RowKit
theorem bitLen_pow : ∀ (n x : Nat), x ≤ n → 0 < x → x < 2 ^ 64 → 2 ^ (Lib.bitLen x) ≤ 2 * x ∧ x < 2 ^ (Lib.bitLen x)
  | 0, x, h, h0, _ => by omega
  | n + 1, x, h, h0, hx => by
    rw [Lib.bitLen_half x (by omega) hx, Nat.pow_add, Nat.pow_one]
    by_cases h1 : x = 1
    · subst h1
      decide
    · have ih := bitLen_pow n (x / 2) (by omega) (by omega) (by omega)
      generalize 2 ^ (Lib.bitLen (x / 2)) = p at *
      omega
theorem shift_of (y : Nat) (h0 : 0 < y) (hy : y < 18446744073709551616) : ∃ s k K : Nat, s < 64 ∧ (s : Int) = 64 - (Lib.bitLen y : Int) ∧ k = 2 ^ s ∧ K = 2 ^ (64 - s) ∧ k * K = 18446744073709551616 ∧ y * k < 18446744073709551616 ∧ 9223372036854775808 ≤ y * k := by
  obtain ⟨p1, p2⟩ := bitLen_pow y y (Nat.le_refl _) h0 hy
  have hb : Lib.bitLen y ≤ 64 := Lib.bitLen_le y 64 (by omega) hy
  have hb0 : Lib.bitLen y ≠ 0 := by
    intro e
    rw [e] at p2
    omega
  generalize Lib.bitLen y = b at *
  have e : (2 : Nat) ^ (64 - b) * 2 ^ b = 18446744073709551616 := by
    rw [← Nat.pow_add, show 64 - b + b = 64 by omega]
  refine ⟨64 - b, 2 ^ (64 - b), 2 ^ b, by omega, by omega, rfl, by rw [show 64 - (64 - b) = b by omega], e, ?_, ?_⟩
  · generalize (2 : Nat) ^ (64 - b) = k at *
    have : y * k < 2 ^ b * k := Nat.mul_lt_mul_of_pos_right p2 (Nat.pos_of_ne_zero fun h => by rw [h] at e; omega)
    rw [Nat.mul_comm (2 ^ b) k, e] at this
    exact this
  · generalize (2 : Nat) ^ (64 - b) = k at *
    have : 2 ^ b * k ≤ 2 * y * k := Nat.mul_le_mul_right k p1
    rw [Nat.mul_comm (2 ^ b) k, e, Nat.mul_assoc] at this
    omega
theorem low_half (x : Nat) (h : x < 18446744073709551616) : bits BinOp.and IntKind.u64 (x : Int) 4294967295 = ((x % 4294967296 : Nat) : Int) := by
  have := bits_and x 4294967295 (by omega) (by decide)
  rw [show (4294967295 : Nat) = 2 ^ 32 - 1 from rfl, Nat.and_two_pow_sub_one_eq_mod] at this
  exact this
theorem wrap_in (x : Nat) (h : x < 18446744073709551616) : IntKind.u64.wrap (x : Int) = (x : Int) := by
  rw [IntKind.wrap_u64]; omega
theorem rest_wrap (S T V Z : Nat) (h : S + V = T + Z) (hz : Z < 18446744073709551616) : IntKind.u64.wrap (((S % 18446744073709551616 : Nat) : Int) + (V : Int) - ((T % 18446744073709551616 : Nat) : Int)) = (Z : Int) := by
  rw [IntKind.wrap_u64]; omega
theorem mod_wrap (x : Nat) : IntKind.u64.wrap (x : Int) = ((x % 18446744073709551616 : Nat) : Int) := by
  rw [IntKind.wrap_u64]; omega
theorem half_join (u n : Nat) : u * 18446744073709551616 + n = (u * 4294967296 + n / 4294967296) * 4294967296 + n % 4294967296 := by omega
theorem half_div (x : Nat) : (x : Int) / 4294967296 = ((x / 4294967296 : Nat) : Int) := by omega
theorem half_mul (x : Nat) : IntKind.u64.wrap ((x : Int) * 4294967296) = ((x * 4294967296 % 18446744073709551616 : Nat) : Int) := by
  rw [IntKind.wrap_u64]; omega
theorem half_top (x : Nat) : x * 4294967296 % 18446744073709551616 ≤ 18446744069414584320 := by omega
theorem div64_any (hi lo y : Nat) (w : World) (h0 : 0 < hi) (h1 : hi < y) (hlo : lo < 18446744073709551616) (hy : y < 18446744073709551616) :
    Calls Tryz.prog 41 #[.int .u64 (hi : Int), .int .u64 (lo : Int), .int .u64 (y : Int)] w fun e w' => e = .returned (.tuple #[.int .u64 (((hi * 18446744073709551616 + lo) / y : Nat) : Int), .int .u64 (((hi * 18446744073709551616 + lo) % y : Nat) : Int)]) ∧ Below w.heap.size w w' := by
  obtain ⟨s, k, K, hs, hsb, hk, hK, hkK, hyk, hyk2⟩ := shift_of y (by omega) hy
  have hk0 : 0 < k := Nat.pos_of_ne_zero fun h => by rw [h] at hkK; omega
  have hK0 : 0 < K := Nat.pos_of_ne_zero fun h => by rw [h] at hkK; omega
  have hL : ∀ w, Calls Tryz.prog 47 #[.int .u64 (y : Int)] w fun e w' => e = .returned (.int .i64 (s : Int)) ∧ w' = w := fun w => by
    rw [hsb]
    exact Tryz.bits_LeadingZeros64 (y : Int) w (by omega) (by omega)
  obtain ⟨Y, hY⟩ : ∃ Y, Y = y * k := ⟨_, rfl⟩
  obtain ⟨Lh, hLh⟩ : ∃ L, L = lo / K := ⟨_, rfl⟩
  obtain ⟨N10, hN10⟩ : ∃ N, N = lo * k % 18446744073709551616 := ⟨_, rfl⟩
  obtain ⟨H, hH⟩ : ∃ H, H = hi * k := ⟨_, rfl⟩
  obtain ⟨U, hU⟩ : ∃ U, U = H + Lh := ⟨_, rfl⟩
  have hHY : H < Y := by rw [hH, hY]; exact Nat.mul_lt_mul_of_pos_right h1 hk0
  have hlk : lo * k = Lh * 18446744073709551616 + N10 := by
    have e : lo * k / 18446744073709551616 = Lh := by
      rw [hLh, ← hkK, Nat.mul_comm lo k, Nat.mul_div_mul_left _ _ hk0]
    have := Nat.div_add_mod (lo * k) 18446744073709551616
    omega
  have hLk : Lh < k := by
    rw [hLh, Nat.div_lt_iff_lt_mul hK0, hkK]
    exact hlo
  obtain ⟨n, hn⟩ : ∃ n, n = hi * 18446744073709551616 + lo := ⟨_, rfl⟩
  have hnk : n * k = U * 18446744073709551616 + N10 := by
    have : n * k = H * 18446744073709551616 + lo * k := by
      rw [hn, hH, Nat.add_mul, Nat.mul_assoc, Nat.mul_comm 18446744073709551616 k, ← Nat.mul_assoc]
    rw [this, hU]
    omega
  have hUY : U < Y := by
    have h2 : n < y * 18446744073709551616 := by rw [hn]; omega
    have h3 : n * k < y * 18446744073709551616 * k := Nat.mul_lt_mul_of_pos_right h2 hk0
    rw [Nat.mul_right_comm, ← hY] at h3
    omega
  have hYb : Y < 18446744073709551616 := by rw [hY]; exact hyk
  have hYl : 9223372036854775808 ≤ Y := by rw [hY]; exact hyk2
  have hN10b : N10 < 18446744073709551616 := by rw [hN10]; exact Nat.mod_lt _ (by omega)
  have a1 : IntKind.u64.wrap ((y : Int) * 2 ^ s) = (Y : Int) := by
    rw [show ((y : Int) * 2 ^ s) = ((y * k : Nat) : Int) by rw [hk]; push_cast; rfl, ← hY]
    exact wrap_in Y hYb
  have a4 : IntKind.u64.wrap ((hi : Int) * 2 ^ s) = (H : Int) := by
    rw [show ((hi : Int) * 2 ^ s) = ((hi * k : Nat) : Int) by rw [hk]; push_cast; rfl, ← hH]
    exact wrap_in H (by omega)
  have a5 : (lo : Int) / 2 ^ (64 - s) = (Lh : Int) := by
    rw [show ((2 : Int) ^ (64 - s)) = ((K : Nat) : Int) by rw [hK]; push_cast; rfl, hLh]
    push_cast
    rfl
  have a6 : bits BinOp.or IntKind.u64 (H : Int) (Lh : Int) = (U : Int) := by
    have ho : H ||| Lh = H + Lh := by
      have h := Nat.shiftLeft_add_eq_or_of_lt (show Lh < 2 ^ s by rw [← hk]; exact hLk) hi
      rw [Nat.shiftLeft_eq, ← hk, ← hH] at h
      exact h.symm
    rw [bits_or _ _ (by omega) (by omega), ho, ← hU]
  have a7 : IntKind.u64.wrap ((lo : Int) * 2 ^ s) = (N10 : Int) := by
    rw [show ((lo : Int) * 2 ^ s) = ((lo * k : Nat) : Int) by rw [hk]; push_cast; rfl, mod_wrap, ← hN10]
  have HH1 : Halves Y (Y / 4294967296) (Y % 4294967296) U (N10 / 4294967296) := ⟨by omega, by omega, by omega, by omega, hUY, by omega⟩
  obtain ⟨G1, hG1⟩ : ∃ G, G = (U * 4294967296 + N10 / 4294967296) / Y := ⟨_, rfl⟩
  obtain ⟨Z, hZ⟩ : ∃ Z, Z = (U * 4294967296 + N10 / 4294967296) % Y := ⟨_, rfl⟩
  have hYp : 0 < Y := by omega
  have hZY : Z < Y := by rw [hZ]; exact Nat.mod_lt _ hYp
  have HH0 : Halves Y (Y / 4294967296) (Y % 4294967296) Z (N10 % 4294967296) := ⟨by omega, by omega, by omega, by omega, hZY, by omega⟩
  obtain ⟨T1, hT1⟩ : ∃ T, T = G1 * Y := ⟨_, rfl⟩
  have hs1 : U * 4294967296 + N10 / 4294967296 = T1 + Z := by
    have := Nat.div_add_mod (U * 4294967296 + N10 / 4294967296) Y
    rw [← hG1, ← hZ, Nat.mul_comm, ← hT1] at this
    exact this.symm
  obtain ⟨G0, hG0⟩ : ∃ G, G = (Z * 4294967296 + N10 % 4294967296) / Y := ⟨_, rfl⟩
  obtain ⟨F, hF⟩ : ∃ F, F = (Z * 4294967296 + N10 % 4294967296) % Y := ⟨_, rfl⟩
  have hFY : F < Y := by rw [hF]; exact Nat.mod_lt _ hYp
  obtain ⟨T0, hT0⟩ : ∃ T, T = G0 * Y := ⟨_, rfl⟩
  have hs0 : Z * 4294967296 + N10 % 4294967296 = T0 + F := by
    have := Nat.div_add_mod (Z * 4294967296 + N10 % 4294967296) Y
    rw [← hG0, ← hF, Nat.mul_comm, ← hT0] at this
    exact this.symm
  have htd := two_digits n y k U (N10 / 4294967296) (N10 % 4294967296) Y hk0 (by omega) hY (by rw [hnk]; exact half_join _ _)
  rw [← hn, ← htd.1, ← htd.2, ← hZ, ← hF]
  obtain ⟨Y1, hY1⟩ : ∃ Y1, Y1 = Y / 4294967296 := ⟨_, rfl⟩
  rw [← hY1] at HH1 HH0
  have hY1p : 0 < Y1 := by omega
  have hqr : ∀ x, x = x / Y1 * Y1 + x % Y1 := fun x => (Nat.div_add_mod' x Y1).symm
  have hrl : ∀ x, x % Y1 < 4294967296 := fun x => by have := Nat.mod_lt x hY1p; omega
  have hdiv : ∀ x : Nat, x / Y1 ≤ 4294967297 → IntKind.u64.wrap ((x : Int) / (Y1 : Int)) = ((x / Y1 : Nat) : Int) := fun x hx => by
    rw [show ((x : Int) / (Y1 : Int)) = ((x / Y1 : Nat) : Int) by push_cast; rfl]
    exact wrap_in _ (by omega)
  have hmul : ∀ x : Nat, x < Y → IntKind.u64.wrap (((x / Y1 : Nat) : Int) * (Y1 : Int)) = ((x / Y1 * Y1 : Nat) : Int) ∧ (x : Int) - ((x / Y1 * Y1 : Nat) : Int) = ((x % Y1 : Nat) : Int) := fun x hx => by
    have e := hqr x
    obtain ⟨M, hM⟩ : ∃ M, M = x / Y1 * Y1 := ⟨_, rfl⟩
    rw [show (((x / Y1 : Nat) : Int) * (Y1 : Int)) = ((x / Y1 * Y1 : Nat) : Int) by push_cast; rfl, ← hM]
    rw [← hM] at e
    exact ⟨wrap_in M (by omega), by omega⟩
  exact div64_walk hi lo y s Y Y1 (Y % 4294967296) H Lh U N10 (N10 / 4294967296) (N10 % 4294967296) Z (U / Y1) (U % Y1) (U / Y1 * Y1) (Z / Y1) (Z % Y1) (Z / Y1 * Y1) (U * 4294967296 % 18446744073709551616) (T1 % 18446744073709551616) (Z * 4294967296 % 18446744073709551616) (T0 % 18446744073709551616) F (F / k) w h0 h1 hs hL
    a1 (by rw [hY1]; exact half_div Y) (low_half Y hYb) a4 a5 a6 a7 (half_div N10) (low_half N10 hN10b) HH1 HH0
    (hdiv U HH1.first.2) (hmul U hUY).1 (hmul U hUY).2 (hqr U) HH1.first.1 HH1.first.2 (hrl U)
    (half_mul U)
    (by rw [← hG1, show ((G1 : Int) * (Y : Int)) = ((T1 : Nat) : Int) by rw [hT1]; push_cast; rfl]; exact mod_wrap _)
    (rest_wrap _ _ _ _ hs1 (by omega)) (half_top U)
    (hdiv Z HH0.first.2) (hmul Z hZY).1 (hmul Z hZY).2 (hqr Z) HH0.first.1 HH0.first.2 (hrl Z)
    (half_mul Z)
    (by rw [← hG0, show ((G0 : Int) * (Y : Int)) = ((T0 : Nat) : Int) by rw [hT0]; push_cast; rfl]; exact mod_wrap _)
    (rest_wrap _ _ _ _ hs0 (by omega))
    (by rw [show ((2 : Int) ^ s) = ((k : Nat) : Int) by rw [hk]; push_cast; rfl]; push_cast; rfl) (half_top Z)
end Go.Proofs.YtnpdjddebeipiaaGreatDoor
