/- A number of 128 bits by a million: math/bits' Div64 with a higher word. -/
import Derived.Test.YtnpdjddebeipiaaGreatDoorNumWide
import Derived.Test.YtnpdjddebeipiaaGreatDoorShelf
namespace Go.Proofs.YtnpdjddebeipiaaGreatDoor
open Go.RowKit
theorem bits_or (x y : Nat) (hx : x < 18446744073709551616) (hy : y < 18446744073709551616) : bits BinOp.or IntKind.u64 (x : Int) (y : Int) = ((x ||| y : Nat) : Int) := by
  have h : x ||| y < 2 ^ 64 := Nat.or_lt_two_pow (by simpa using hx) (by simpa using hy)
  show IntKind.u64.wrap (((BitVec.ofInt 64 (x : Int)) ||| (BitVec.ofInt 64 (y : Int))).toNat : Int) = _
  rw [BitVec.ofInt_natCast, BitVec.ofInt_natCast, BitVec.toNat_or, BitVec.toNat_ofNat, BitVec.toNat_ofNat, Nat.mod_eq_of_lt (by simpa using hx), Nat.mod_eq_of_lt (by simpa using hy), IntKind.wrap_u64]
  generalize x ||| y = z at *
  omega
theorem bits_and (x y : Nat) (hx : x < 18446744073709551616) (hy : y < 18446744073709551616) : bits BinOp.and IntKind.u64 (x : Int) (y : Int) = ((x &&& y : Nat) : Int) := by
  have h : x &&& y < 2 ^ 64 := Nat.and_lt_two_pow x (by simpa using hy)
  show IntKind.u64.wrap (((BitVec.ofInt 64 (x : Int)) &&& (BitVec.ofInt 64 (y : Int))).toNat : Int) = _
  rw [BitVec.ofInt_natCast, BitVec.ofInt_natCast, BitVec.toNat_and, BitVec.toNat_ofNat, BitVec.toNat_ofNat, Nat.mod_eq_of_lt (by simpa using hx), Nat.mod_eq_of_lt (by simpa using hy), IntKind.wrap_u64]
  generalize x &&& y = z at *
  omega
theorem or_parts (hi lo : Nat) (h1 : hi < 1000000) (h2 : lo < 18446744073709551616) : bits BinOp.or IntKind.u64 ((hi : Int) * 17592186044416) ((lo : Int) / 1048576) = ((hi * 17592186044416 + lo / 1048576 : Nat) : Int) := by
  have hl : lo / 1048576 < 2 ^ 44 := by omega
  have e1 : ((hi : Int) * 17592186044416) = ((hi * 17592186044416 : Nat) : Int) := by omega
  have e2 : ((lo : Int) / 1048576) = ((lo / 1048576 : Nat) : Int) := by omega
  have ho : (hi * 17592186044416 : Nat) ||| (lo / 1048576) = hi * 17592186044416 + lo / 1048576 := by
    have := Nat.shiftLeft_add_eq_or_of_lt hl hi
    rw [Nat.shiftLeft_eq] at this
    exact this.symm
  rw [e1, e2, bits_or _ _ (by omega) (by omega), ho]
theorem low_none (k : Nat) (h : k < 1048576) : bits BinOp.and IntKind.u64 ((k * 17592186044416 : Nat) : Int) 4294967295 = 0 := by
  have := bits_and (k * 17592186044416) 4294967295 (by omega) (by decide)
  rw [show (4294967295 : Nat) = 2 ^ 32 - 1 from rfl, Nat.and_two_pow_sub_one_eq_mod] at this
  rw [show (k * 17592186044416) % 2 ^ 32 = 0 by omega] at this
  exact this
set_option maxRecDepth 100000 in
set_option maxHeartbeats 1000000 in
theorem div64_core (hi lo U un V q r Z q0 r0 : Nat) (w : World) (h0 : 0 < hi) (h1 : hi < 1000000)
    (b2 : bits BinOp.or IntKind.u64 ((hi : Int) * 17592186044416) ((lo : Int) / 1048576) = (U : Int)) (b3 : IntKind.u64.wrap ((lo : Int) * 17592186044416) = (un : Int))
    (b4 : bits BinOp.and IntKind.u64 (un : Int) 4294967295 = 0) (b5 : (un : Int) / 4294967296 = (V : Int)) (b6 : (U : Int).tdiv 4096000000 = (q : Int)) (hq : U = q * 4096000000 + r) (hr : r < 4096000000) (hU : U < 17592186044416000000) (hV : V < 4294967296)
    (hZ : Z = r * 4294967296 + V) (b7 : (Z : Int).tdiv 4096000000 = (q0 : Int)) (hq0 : Z = q0 * 4096000000 + r0) (hr0 : r0 < 4096000000) :
    Calls Tryz.prog 41 #[.int .u64 (hi : Int), .int .u64 (lo : Int), .int .u64 1000000] w fun e w' => e = .returned (.tuple #[.int .u64 ((q * 4294967296 + q0 : Nat) : Int), .int .u64 ((r0 / 4096 : Nat) : Int)]) ∧ Below w.heap.size w w' := by
  have h0' : ((hi : Int) == 0) = false := by simp; omega
  have h1' : ¬ (1000000 : Int) ≤ (hi : Int) := by omega
  have HL := hide (show ∀ w, Calls Tryz.prog 47 #[.int .u64 1000000] w fun e w' => e = .returned (.int .i64 44) ∧ w' = w from fun w => Tryz.bits_LeadingZeros64 1000000 w (by decide) (by decide))
  have b1 : bits BinOp.and IntKind.u64 17592186044416000000 4294967295 = 0 := by decide +kernel
  have hql : q < 4294967296 := by omega
  have hqb : (q : Int) * 4096000000 ≤ 17592186044416000000 := by omega
  have b8 : (U : Int) - (q : Int) * 4096000000 = (r : Int) := by omega
  have w64 : ∀ x : Int, IntKind.u64.wrap x = x % 18446744073709551616 := IntKind.wrap_u64
  obtain ⟨A, hA, b9, hAl⟩ : ∃ A : Nat, A = U * 4294967296 % 18446744073709551616 ∧ IntKind.u64.wrap ((U : Int) * 4294967296) = (A : Int) ∧ A ≤ 18446744069414584320 := ⟨_, rfl, by rw [w64]; omega, by omega⟩
  obtain ⟨B, hB, b10, hBl⟩ : ∃ B : Nat, B = q * 17592186044416000000 % 18446744073709551616 ∧ IntKind.u64.wrap ((q : Int) * 17592186044416000000) = (B : Int) ∧ B < 18446744073709551616 := ⟨_, rfl, by rw [w64]; omega, by omega⟩
  have b11 : IntKind.u64.wrap ((A : Int) + (V : Int) - (B : Int)) = (Z : Int) := by rw [w64]; omega
  have hZl : Z < 17592186044416000000 := by omega
  have hq0l : q0 < 4294967296 := by omega
  have hq0b : (q0 : Int) * 4096000000 ≤ 17592186044416000000 := by omega
  have b12 : (Z : Int) - (q0 : Int) * 4096000000 = (r0 : Int) := by omega
  obtain ⟨C, hC, b13, hCl⟩ : ∃ C : Nat, C = Z * 4294967296 % 18446744073709551616 ∧ IntKind.u64.wrap ((Z : Int) * 4294967296) = (C : Int) ∧ C < 18446744073709551616 := ⟨_, rfl, by rw [w64]; omega, by omega⟩
  obtain ⟨D, hD, b14, hDl⟩ : ∃ D : Nat, D = q0 * 17592186044416000000 % 18446744073709551616 ∧ IntKind.u64.wrap ((q0 : Int) * 17592186044416000000) = (D : Int) ∧ D < 18446744073709551616 := ⟨_, rfl, by rw [w64]; omega, by omega⟩
  obtain ⟨F, hF, b15, hFl⟩ : ∃ F : Nat, F = r0 * 4294967296 ∧ IntKind.u64.wrap ((C : Int) - (D : Int)) = (F : Int) ∧ F < 18446744073709551616 := ⟨_, rfl, by rw [w64]; omega, by omega⟩
  have b16 : (F : Int) / 17592186044416 = ((r0 / 4096 : Nat) : Int) := by omega
  clear hA hB hC hD hF
  generalize r0 / 4096 = R at *
  have c1 : ¬ (4294967296 : Int) ≤ (q : Int) := by omega
  have c3 : ¬ (4294967296 : Int) ≤ (q0 : Int) := by omega
  obtain ⟨E, e1, e2⟩ : ∃ E : Nat, IntKind.u64.wrap (4294967296 * (r : Int)) = (E : Int) ∧ IntKind.u64.wrap ((E : Int) + (V : Int)) = ((E + V : Nat) : Int) := ⟨r * 4294967296, by rw [w64]; omega, by rw [w64]; omega⟩
  generalize E + V = EV at *
  obtain ⟨G, g1, g2⟩ : ∃ G : Nat, IntKind.u64.wrap (4294967296 * (r0 : Int)) = (G : Int) ∧ IntKind.u64.wrap ((G : Int)) = (G : Int) := ⟨r0 * 4294967296, by rw [w64]; omega, by rw [w64]; omega⟩
  clear w64
  have HC1 := hide (show decide ((4294967296 : Int) ≤ (q : Int)) = false from decide_eq_false c1)
  have HC2 := hide (show decide ((EV : Int) < 0) = false from decide_eq_false (by omega))
  have HC3 := hide (show decide ((4294967296 : Int) ≤ (q0 : Int)) = false from decide_eq_false c3)
  have HC4 := hide (show decide ((G : Int) < 0) = false from decide_eq_false (by omega))
  have HQ := hide hq
  have HQ0 := hide hq0
  have HZ := hide hZ
  clear hq hq0 hZ
  go_enter Tryz.func41, Tryz.ntmps41
  go_wp2_with fail
  refine (unhide HL _).mono ?_
  rintro e w1 ⟨rfl, rfl⟩
  go_wp2_with fail
  go_loop [15, 16] (fun a b => a = .int .u64 (q : Int) ∧ b = .int .u64 (r : Int)) (fun _ _ => 0)
  case atStart => exact ⟨rfl, rfl⟩
  case round =>
    obtain ⟨rfl, rfl⟩ := hrel
    clear b2 b3 b4 b5 b6 b8 h0 h1 h0' h1' b1 c1 c3 HL HQ HQ0 HZ
    have k1 := unhide HC1
    have k2 := unhide HC2
    clear HC1 HC2
    go_upto_region 21 with fail
    clear k1 k2 e1 e2
    go_wp2_with fail
    go_loop [18, 16] (fun a b => a = .int .u64 (q0 : Int) ∧ b = .int .u64 (r0 : Int)) (fun _ _ => 0)
    case atStart => exact ⟨rfl, rfl⟩
    case round =>
      obtain ⟨rfl, rfl⟩ := hrel
      have k1 := unhide HC3
      have k2 := unhide HC4
      clear HC3 HC4 b7 b9 b10 b11 b12
      go_upto_region 28 with fail
      clear k1 k2
      go_wp2
      go_ret2
      exact ⟨by first | rfl | (simp; done), by (repeat first | exact Below.refl _ _ | assumption | refine Below.drew ?_ | refine Below.alloc ?_ (by simp <;> omega) _ | refine Below.setCell ?_ (by simp <;> omega) _)⟩
theorem split_by (U : Nat) : ∃ q r, U = q * 4096000000 + r ∧ r < 4096000000 ∧ U / 4096000000 = q :=
  ⟨U / 4096000000, U % 4096000000, by rw [Nat.mul_comm]; exact (Nat.div_add_mod U 4096000000).symm, Nat.mod_lt _ (Nat.succ_pos 4095999999), rfl⟩
theorem tail_of (n Q r0 : Nat) (hn : n * 4096 = Q * 4096000000 + r0) (hr0 : r0 < 4096000000) : Q = n / 1000000 ∧ r0 / 4096 = n % 1000000 := by
  have h1 : r0 = (n - Q * 1000000) * 4096 := by omega
  have h2 : n - Q * 1000000 < 1000000 := by omega
  have h3 : n = (n - Q * 1000000) + 1000000 * Q := by omega
  generalize n - Q * 1000000 = m at *
  subst h3 h1
  rw [Nat.mul_div_cancel _ (by omega), Nat.add_mul_div_left _ _ (by omega), Nat.div_eq_of_lt h2, Nat.add_mul_mod_self_left, Nat.mod_eq_of_lt h2, Nat.zero_add]
  exact ⟨rfl, rfl⟩
set_option maxRecDepth 100000 in
theorem div64_mil (hi lo : Nat) (w : World) (h0 : 0 < hi) (h1 : hi < 1000000) (h2 : lo < 18446744073709551616) :
    Calls Tryz.prog 41 #[.int .u64 (hi : Int), .int .u64 (lo : Int), .int .u64 1000000] w fun e w' => e = .returned (.tuple #[.int .u64 (((hi * 18446744073709551616 + lo) / 1000000 : Nat) : Int), .int .u64 (((hi * 18446744073709551616 + lo) % 1000000 : Nat) : Int)]) ∧ Below w.heap.size w w' := by
  have hU : hi * 17592186044416 + lo / 1048576 < 17592186044416000000 := by omega
  have hN : (hi * 17592186044416 + lo / 1048576) * 4294967296 + lo % 1048576 * 4096 = (hi * 18446744073709551616 + lo) * 4096 := by omega
  obtain ⟨U, eU⟩ : ∃ U, U = hi * 17592186044416 + lo / 1048576 := ⟨_, rfl⟩
  obtain ⟨k, ek⟩ : ∃ k, k = lo % 1048576 := ⟨_, rfl⟩
  obtain ⟨n, en⟩ : ∃ n, n = hi * 18446744073709551616 + lo := ⟨_, rfl⟩
  have hk : k < 1048576 := by omega
  have b2 := or_parts hi lo h1 h2
  rw [← eU] at hU hN b2
  rw [← ek, ← en] at hN
  have b3 : IntKind.u64.wrap ((lo : Int) * 17592186044416) = ((k * 17592186044416 : Nat) : Int) := by rw [IntKind.wrap_u64]; omega
  obtain ⟨q, r, hq, hr, hqd⟩ := split_by U
  obtain ⟨Z, hZ⟩ : ∃ Z, Z = r * 4294967296 + k * 4096 := ⟨_, rfl⟩
  obtain ⟨q0, r0, hq0, hr0, hqd0⟩ := split_by Z
  have b5 : ((k * 17592186044416 : Nat) : Int) / 4294967296 = ((k * 4096 : Nat) : Int) := by omega
  have b6 : (U : Int).tdiv 4096000000 = (q : Int) := by rw [Int.tdiv_eq_ediv_of_nonneg (Int.natCast_nonneg U), ← hqd]; exact (Int.natCast_ediv U 4096000000).symm
  have b7 : (Z : Int).tdiv 4096000000 = (q0 : Int) := by rw [Int.tdiv_eq_ediv_of_nonneg (Int.natCast_nonneg Z), ← hqd0]; exact (Int.natCast_ediv Z 4096000000).symm
  have hV : k * 4096 < 4294967296 := by omega
  have h := div64_core hi lo U (k * 17592186044416) (k * 4096) q r Z q0 r0 w h0 h1 b2 b3 (low_none k hk) b5 b6 hq hr hU hV hZ b7 hq0 hr0
  rw [← en]
  have hn : n * 4096 = (q * 4294967296 + q0) * 4096000000 + r0 := by
    clear hqd hqd0 b2 b3 b5 b6 b7 h
    omega
  obtain ⟨r1, r2⟩ := tail_of n _ r0 hn hr0
  rw [r1, r2] at h
  exact h
end Go.Proofs.YtnpdjddebeipiaaGreatDoor
