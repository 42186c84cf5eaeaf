/- Sums and differences of Fin numbers: xnum's Add and Sub. -/
import Derived.Test.YtppkilblkobkhaaGreatDoorNumNeg
import Derived.Test.YtppkilblkobkhaaGreatDoorNumInv
namespace Go.Proofs.YtppkilblkobkhaaGreatDoor
open Go.RowKit
attribute [local go_sem ↓] Go.wp_at_zero Go.wp_at_succ
set_option maxHeartbeats 1000000 in
theorem add_fin (v u : Int) (w : World) (h1 : -9223372036854775808 ≤ v + u) (h2 : v + u ≤ 9223372036854775807) :
    Calls Tryz.prog 73 #[.agg #[.int .i64 0, .int .i64 v], .agg #[.int .i64 0, .int .i64 u]] w fun e w' => e = .returned (.agg #[.int .i64 (signK (decide (v + u < 0)) (v + u).natAbs), .int .i64 (signN (decide (v + u < 0)) (v + u).natAbs)]) ∧ Below w.heap.size w w' := by
  have hi : infB 0 = false := rfl
  have hn1 : (v + u).natAbs < 18446744073709551616 := by omega
  have HS := hide (fun w => sizeOf_any (v + u) w h1 h2)
  have HG := hide (fun w => signed_any (decide (v + u < 0)) (v + u).natAbs w hn1)
  have hw : wrap64 (v + u) = v + u := by unfold wrap64; omega
  generalize (v + u).natAbs = n at *
  generalize signK (decide (v + u < 0)) n = K at *
  generalize signN (decide (v + u < 0)) n = U at *
  go_enter Tryz.func73, Tryz.ntmps73
  go_wp2_with (first | (go_at_call 102; refine (isNaN_any _ _ _).mono ?_; rintro e w' ⟨rfl, rfl⟩) | (go_at_call 104; refine (isInfinite_any _ _ _).mono ?_; rintro e w' ⟨rfl, rfl⟩) | (go_at_call 105; refine (isBelow_any _ _ _).mono ?_; rintro e w' ⟨rfl, rfl⟩) | (go_at_call 103; refine (notANumber_any _).mono ?_; rintro e w' ⟨rfl, rfl⟩) | (go_at_call 99; refine (infinite_any _ _).mono ?_; rintro e w' ⟨rfl, rfl⟩))
  refine (unhide HS _).mono ?_
  rintro e w1 ⟨rfl, rfl⟩
  go_wp2_with fail
  refine (unhide HG _).mono ?_
  rintro e w1 ⟨rfl, hb⟩
  have hr := NumAt.below (b := w.heap.size + 1 + 1) (k := 0) (v := 0) ⟨by simp [go_sem], by simp [go_sem], by simp [go_sem], by simp [go_sem]⟩ hb
  have hfin : Below w.heap.size w w1 := Below.then (by (repeat first | exact Below.refl _ _ | assumption | refine Below.drew ?_ | refine Below.alloc ?_ (by simp <;> omega) _ | refine Below.setCell ?_ (by simp <;> omega) _)) hb
  have hP := hr.put K U
  have hB := putN_below hfin (show w.heap.size ≤ w.heap.size + 1 + 1 by omega) K U
  obtain ⟨q0, q1, q2, q3⟩ := hr
  clear hb HS HG
  go_wp2
  show bodyPost _ _ _ _ _ (putN w1 (w.heap.size + 1 + 1) K U)
  generalize putN w1 (w.heap.size + 1 + 1) K U = X at hP hB ⊢
  obtain ⟨x0, x1, _, _⟩ := hP
  refine bodyPost_ret (v := .agg #[.int .i64 K, .int .i64 U]) ?_ rfl ⟨rfl, hB⟩
  simp [results, Tryz.results73, go_sem, x0, x1]
end Go.Proofs.YtppkilblkobkhaaGreatDoor
