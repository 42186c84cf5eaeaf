/- Sums, products and quotients of 128 bits: xnum's addWide, product and quotient. -/
import Derived.Test.YtoeahagloobmoaaGreatDoorNumSmall
import Derived.Laws.Externs
import Derived.ScopeJumps
import Derived.WalkMore
namespace Go.Proofs.YtoeahagloobmoaaGreatDoor
open Go.RowKit
/-- A number of 128 bits, in two. -/
abbrev wideV (n : Nat) : Value := .agg #[.int .u64 ((n : Int) / 18446744073709551616), .int .u64 ((n : Int) % 18446744073709551616)]
/-- A variable of 128 bits holds a number, and may be written. -/
structure WideAt (w : World) (k n : Nat) : Prop where
  hi : w.cell? ⟨k, 0, none⟩ = some (.int .u64 ((n : Int) / 18446744073709551616))
  lo : w.cell? ⟨k, 1, none⟩ = some (.int .u64 ((n : Int) % 18446744073709551616))
  o0 : w.frozen? ⟨k, 0, none⟩ = false
  o1 : w.frozen? ⟨k, 1, none⟩ = false
theorem wraps64 (n : Int) (h0 : 0 ≤ n) (h1 : n < 2 ^ 64) : IntKind.u64.wrap n = n := by rw [IntKind.wrap_u64]; omega
theorem WideAt.below {w w' : World} {k n : Nat} (h : WideAt w k n) (hb : Below w.heap.size w w') : WideAt w' k n :=
  ⟨kept_cell hb h.hi, kept_cell hb h.lo, kept_open hb h.hi h.o0, kept_open hb h.lo h.o1⟩
theorem wide_split (n : Nat) : n / 18446744073709551616 * 18446744073709551616 + n % 18446744073709551616 = n := by omega
/-- .. when it is written. -/
def putW (w : World) (k : Nat) (x y : Int) : World := (w.setCell ⟨k, 0, none⟩ (.int .u64 x)).setCell ⟨k, 1, none⟩ (.int .u64 y)
theorem WideAt.put {w : World} {k n : Nat} (h : WideAt w k n) (m : Nat) : WideAt (putW w k ((m : Int) / 18446744073709551616) ((m : Int) % 18446744073709551616)) k m := by
  obtain ⟨h1, h2, h3, h4⟩ := h
  unfold putW
  refine ⟨?_, ?_, ?_, ?_⟩
  all_goals simp [go_sem, *]
theorem WideAt.keep {w : World} {k j n : Nat} (h : WideAt w k n) (hn : k ≠ j) (x y : Int) : WideAt (putW w j x y) k n := by
  obtain ⟨h1, h2, h3, h4⟩ := h
  have hn' : j ≠ k := fun e => hn e.symm
  unfold putW
  refine ⟨?_, ?_, ?_, ?_⟩
  all_goals simp [go_sem, *]
theorem putW_below {w w' : World} {B k : Nat} (h : Below B w w') (hk : B ≤ k) (x y : Int) : Below B w (putW w' k x y) := (h.setCell hk _).setCell hk _
theorem double_lt (a b bb i sh : Nat) (ha : a < 18446744073709551616) (hb : b < 18446744073709551616) (h0 : 1 ≤ bb) (h1 : sh = a * 2 ^ i) (h2 : bb * 2 ^ i ≤ b) : sh + sh < 340282366920938463463374607431768211456 := by
  have h3 : 2 ^ i ≤ bb * 2 ^ i := Nat.le_mul_of_pos_left _ h0
  have h4 : 2 ^ i < 2 ^ 64 := by
    have : (2 : Nat) ^ 64 = 18446744073709551616 := by decide
    omega
  have h5 : i < 64 := (Nat.pow_lt_pow_iff_right (by decide)).1 h4
  have h6 : 2 ^ (i + 1) ≤ 2 ^ 64 := Nat.pow_le_pow_right (by decide) (by omega)
  have h7 : sh + sh = a * 2 ^ (i + 1) := by rw [h1, Nat.pow_succ, ← Nat.mul_assoc]; omega
  rw [h7]
  have h8 : a * 2 ^ (i + 1) ≤ a * 2 ^ 64 := Nat.mul_le_mul_left a h6
  have h9 : a * 2 ^ 64 < 18446744073709551616 * 2 ^ 64 := (Nat.mul_lt_mul_right (by decide)).2 ha
  have h10 : 18446744073709551616 * 2 ^ 64 = 340282366920938463463374607431768211456 := by decide
  omega
theorem half_le (bb b i : Nat) (h : bb * 2 ^ i ≤ b) : bb / 2 * 2 ^ (i + 1) ≤ b := by
  have h1 : bb / 2 * 2 ≤ bb := Nat.div_mul_le_self bb 2
  have h2 : bb / 2 * 2 ^ (i + 1) = bb / 2 * 2 * 2 ^ i := by rw [Nat.pow_succ, Nat.mul_comm (2 ^ i) 2, Nat.mul_assoc]
  rw [h2]
  exact Nat.le_trans (Nat.mul_le_mul_right _ h1) h
end Go.Proofs.YtoeahagloobmoaaGreatDoor
