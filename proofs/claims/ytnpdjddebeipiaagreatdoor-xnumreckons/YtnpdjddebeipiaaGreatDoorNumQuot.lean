/- A product of Fin numbers: xnum's quotient of 128 bits by a million, and Mul. -/
import Derived.Test.YtnpdjddebeipiaaGreatDoorNumDiv64
import Derived.Test.YtnpdjddebeipiaaGreatDoorNumDiv
import Derived.Test.YtnpdjddebeipiaaGreatDoorNumInv
namespace Go.Proofs.YtnpdjddebeipiaaGreatDoor
open Go.RowKit
attribute [local go_sem ↓] Go.wp_at_zero Go.wp_at_succ
/-- What quotient tells of a number of 128 bits by a million: the whole part, and the rest. -/
def quotP (n : Nat) : Nat := if n / 18446744073709551616 < 1000000 then n / 1000000 else 18446744073709551615
def quotR (n : Nat) : Nat := if n / 18446744073709551616 < 1000000 then n % 1000000 else 0
theorem quotP_lt (n : Nat) : quotP n < 18446744073709551616 := by
  unfold quotP
  split
  · omega
  · decide
set_option maxRecDepth 100000 in
set_option maxHeartbeats 1000000 in
theorem quotient_wide (hi lo P R : Nat) (w : World) (h1 : hi < 1000000) (hd : ∀ w, Calls Tryz.prog 41 #[.int .u64 (hi : Int), .int .u64 (lo : Int), .int .u64 1000000] w fun e w' => e = .returned (.tuple #[.int .u64 (P : Int), .int .u64 (R : Int)]) ∧ Below w.heap.size w w') :
    Calls Tryz.prog 26 #[.agg #[.int .u64 (hi : Int), .int .u64 (lo : Int)], .int .u64 1000000] w fun e w' => e = .returned (.agg #[.int .u64 (P : Int), .int .u64 (R : Int)]) ∧ Below w.heap.size w w' := by
  have HD := hide hd
  clear hd
  have h1' : ¬ (1000000 : Int) ≤ (hi : Int) := by omega
  clear h1
  go_enter Tryz.func26, Tryz.ntmps26
  go_wp2_with fail
  refine (unhide HD _).mono ?_
  rintro e w1 ⟨rfl, hb⟩
  have hfin : Below w.heap.size w w1 := Below.then (by (repeat first | exact Below.refl _ _ | assumption | refine Below.drew ?_ | refine Below.alloc ?_ (by simp <;> omega) _ | refine Below.setCell ?_ (by simp <;> omega) _)) hb
  obtain ⟨q0, q1, q2, q3⟩ := PartsAt.below (b := w.heap.size + 1) ⟨by simp [go_sem], by simp [go_sem], by simp [go_sem], by simp [go_sem]⟩ hb
  clear hb HD h1'
  go_wp2
  refine bodyPost_ret (v := .agg #[.int .u64 (P : Int), .int .u64 (R : Int)]) ?_ rfl ⟨rfl, ?_⟩
  · simp [results, Tryz.results26, go_sem, *]
  · exact (hfin.setCell (by dsimp only; omega) _).setCell (by dsimp only; omega) _
set_option maxHeartbeats 1000000 in
theorem quotient_great (hi lo : Nat) (w : World) (h1 : 1000000 ≤ hi) :
    Calls Tryz.prog 26 #[.agg #[.int .u64 (hi : Int), .int .u64 (lo : Int)], .int .u64 1000000] w fun e w' => e = .returned (.agg #[.int .u64 18446744073709551615, .int .u64 0]) ∧ Below w.heap.size w w' := by
  have h1' : (1000000 : Int) ≤ (hi : Int) := by omega
  clear h1
  go_enter Tryz.func26, Tryz.ntmps26
  go_wp2
  refine bodyPost_ret (v := .agg #[.int .u64 18446744073709551615, .int .u64 0]) (by simp [results, Tryz.results26, go_sem]) rfl ⟨rfl, ?_⟩
  (repeat first | exact Below.refl _ _ | assumption | refine Below.drew ?_ | refine Below.alloc ?_ (by simp <;> omega) _ | refine Below.setCell ?_ (by simp <;> omega) _)
theorem quotient_mil (n : Nat) (w : World) :
    Calls Tryz.prog 26 #[wideV n, .int .u64 1000000] w fun e w' => e = .returned (.agg #[.int .u64 (quotP n : Int), .int .u64 (quotR n : Int)]) ∧ Below w.heap.size w w' := by
  have e1 : (n : Int) / 18446744073709551616 = ((n / 18446744073709551616 : Nat) : Int) := by omega
  have e2 : (n : Int) % 18446744073709551616 = ((n % 18446744073709551616 : Nat) : Int) := by omega
  unfold wideV
  rw [e1, e2]
  have hlo : n % 18446744073709551616 < 18446744073709551616 := by omega
  by_cases hg : 1000000 ≤ n / 18446744073709551616
  · have h := quotient_great (n / 18446744073709551616) (n % 18446744073709551616) w hg
    unfold quotP quotR
    rw [if_neg (by omega), if_neg (by omega)]
    exact h
  · have hs : n / 18446744073709551616 * 18446744073709551616 + n % 18446744073709551616 = n := wide_split n
    unfold quotP quotR
    rw [if_pos (by omega), if_pos (by omega)]
    by_cases h0 : n / 18446744073709551616 = 0
    · have hm : n % 18446744073709551616 = n := by omega
      rw [h0, hm]
      refine (quotient_any n 1000000 w (by omega) (by decide) (by decide)).mono ?_
      rintro e w' ⟨rfl, rfl⟩
      refine ⟨rfl, ?_⟩
      (repeat first | exact Below.refl _ _ | assumption | refine Below.drew ?_ | refine Below.alloc ?_ (by simp <;> omega) _ | refine Below.setCell ?_ (by simp <;> omega) _)
    · refine quotient_wide _ _ _ _ w (by omega) ?_
      intro w
      have h := div64_mil (n / 18446744073709551616) (n % 18446744073709551616) w (by omega) (by omega) hlo
      rw [hs] at h
      exact h
/-- The size of a product, in millionths. -/
def mulN (v u : Int) : Nat := quotP (v.natAbs * u.natAbs)
end Go.Proofs.YtnpdjddebeipiaaGreatDoor
