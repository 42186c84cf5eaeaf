/- Sums and differences of Fin numbers: xnum's Add and Sub. -/
import Derived.Test.YtmaefnmjfkbplaaGreatDoorNumNeg
import Derived.Test.YtmaefnmjfkbplaaGreatDoorNumInv
namespace Go.Proofs.YtmaefnmjfkbplaaGreatDoor
open Go.RowKit
attribute [local go_sem ↓] Go.wp_at_zero Go.wp_at_succ
set_option maxHeartbeats 1000000 in
theorem add_fin (v u : Int) (w : World) (h1 : -9223372036854775808 ≤ v + u) (h2 : v + u ≤ 9223372036854775807) :
    Calls Tryz.prog 6 #[.agg #[.int .i64 0, .int .i64 v], .agg #[.int .i64 0, .int .i64 u]] w fun e w' => e = .returned (.agg #[.int .i64 (signK (decide (v + u < 0)) (v + u).natAbs), .int .i64 (signN (decide (v + u < 0)) (v + u).natAbs)]) ∧ Below w.heap.size w w' := by
  have hi : infB 0 = false := rfl
  have hn1 : (v + u).natAbs < 18446744073709551616 := by omega
  have HS := hide (fun w => sizeOf_any (v + u) w h1 h2)
  have HG := hide (fun w => signed_any (decide (v + u < 0)) (v + u).natAbs w hn1)
  have hw : wrap64 (v + u) = v + u := by unfold wrap64; omega
  generalize (v + u).natAbs = n at *
  generalize signK (decide (v + u < 0)) n = K at *
  generalize signN (decide (v + u < 0)) n = U at *
  go_enter Tryz.func6, Tryz.ntmps6
  go_wp2_with (first | (go_at_call 26; refine (isNaN_any _ _ _).mono ?_; rintro e w' ⟨rfl, rfl⟩) | (go_at_call 28; refine (isInfinite_any _ _ _).mono ?_; rintro e w' ⟨rfl, rfl⟩) | (go_at_call 33; refine (isZero_any _ _ _).mono ?_; rintro e w' ⟨rfl, rfl⟩) | (go_at_call 30; refine (isBelow_any _ _ _).mono ?_; rintro e w' ⟨rfl, rfl⟩) | (go_at_call 27; refine (notANumber_any _).mono ?_; rintro e w' ⟨rfl, rfl⟩) | (go_at_call 29; refine (infinite_any _ _).mono ?_; rintro e w' ⟨rfl, rfl⟩))
  refine (unhide HS _).mono ?_
  rintro e w1 ⟨rfl, rfl⟩
  go_wp2_with fail
  refine (unhide HG _).mono ?_
  rintro e w1 ⟨rfl, hb⟩
  have hr := NumAt.below (b := w.heap.size + 1 + 1) (k := 0) (v := 0) ⟨by simp [go_sem], by simp [go_sem], by simp [go_sem], by simp [go_sem]⟩ hb
  have hfin : Below w.heap.size w w1 := Below.then (by (repeat first | exact Below.refl _ _ | assumption | refine Below.drew ?_ | refine Below.alloc ?_ (by simp <;> omega) _ | refine Below.setCell ?_ (by simp <;> omega) _)) hb
  have hP := hr.put K U
  have hB := putN_below hfin (show w.heap.size ≤ w.heap.size + 1 + 1 by omega) K U
  obtain ⟨q0, q1, q2, q3⟩ := hr
  clear hb HS HG
  go_wp2
  show bodyPost _ _ _ _ _ (putN w1 (w.heap.size + 1 + 1) K U)
  generalize putN w1 (w.heap.size + 1 + 1) K U = X at hP hB ⊢
  obtain ⟨x0, x1, _, _⟩ := hP
  refine bodyPost_ret (v := .agg #[.int .i64 K, .int .i64 U]) ?_ rfl ⟨rfl, hB⟩
  simp [results, Tryz.results6, go_sem, x0, x1]
set_option maxRecDepth 100000 in
set_option maxHeartbeats 1000000 in
theorem sub_fin (v u : Int) (w : World) (h0 : -9223372036854775807 ≤ u) (h3 : u ≤ 9223372036854775807) (h1 : -9223372036854775808 ≤ v - u) (h2 : v - u ≤ 9223372036854775807) :
    Calls Tryz.prog 7 #[.agg #[.int .i64 0, .int .i64 v], .agg #[.int .i64 0, .int .i64 u]] w fun e w' => e = .returned (.agg #[.int .i64 (signK (decide (v - u < 0)) (v - u).natAbs), .int .i64 (signN (decide (v - u < 0)) (v - u).natAbs)]) ∧ Below w.heap.size w w' := by
  have HN := hide (show ∀ w, Calls Tryz.prog 18 #[.agg #[.int .i64 0, .int .i64 u]] w fun e w' => e = .returned (.agg #[.int .i64 0, .int .i64 (-u)]) ∧ Below w.heap.size w w' from fun w => by
    have := neg_any 0 u w
    simp only [negK, negV, if_neg (show ¬ (0 : Int) = 1 by decide), if_neg (show ¬ (0 : Int) = 2 by decide), if_neg (show ¬ (0 : Int) = 3 by decide)] at this
    rw [show wrap64 (-u) = -u by unfold wrap64; omega] at this
    exact this)
  have HA := hide (fun w => add_fin v (-u) w (by omega) (by omega))
  rw [show v + -u = v - u by omega] at HA
  generalize signK (decide (v - u < 0)) (v - u).natAbs = K at *
  generalize signN (decide (v - u < 0)) (v - u).natAbs = U at *
  generalize -u = nu at *
  go_enter Tryz.func7, Tryz.ntmps7
  go_wp2_with fail
  have hb0 : Below w.heap.size w (((w.alloc (.cells #[.int .i64 0, .int .i64 v] 24)).alloc (.cells #[.int .i64 0, .int .i64 u] 24)).alloc (.cells #[.int .i64 0, .int .i64 0] 24)) := by
    (repeat first | exact Below.refl _ _ | assumption | refine Below.drew ?_ | refine Below.alloc ?_ (by simp <;> omega) _ | refine Below.setCell ?_ (by simp <;> omega) _)
  have hA : NumAt (((w.alloc (.cells #[.int .i64 0, .int .i64 v] 24)).alloc (.cells #[.int .i64 0, .int .i64 u] 24)).alloc (.cells #[.int .i64 0, .int .i64 0] 24)) w.heap.size 0 v := ⟨by simp [go_sem], by simp [go_sem], by simp [go_sem], by simp [go_sem]⟩
  have hB : NumAt (((w.alloc (.cells #[.int .i64 0, .int .i64 v] 24)).alloc (.cells #[.int .i64 0, .int .i64 u] 24)).alloc (.cells #[.int .i64 0, .int .i64 0] 24)) (w.heap.size + 1) 0 u := ⟨by simp [go_sem], by simp [go_sem], by simp [go_sem], by simp [go_sem]⟩
  have hR : NumAt (((w.alloc (.cells #[.int .i64 0, .int .i64 v] 24)).alloc (.cells #[.int .i64 0, .int .i64 u] 24)).alloc (.cells #[.int .i64 0, .int .i64 0] 24)) (w.heap.size + 1 + 1) 0 0 := ⟨by simp [go_sem], by simp [go_sem], by simp [go_sem], by simp [go_sem]⟩
  generalize (((w.alloc (.cells #[.int .i64 0, .int .i64 v] 24)).alloc (.cells #[.int .i64 0, .int .i64 u] 24)).alloc (.cells #[.int .i64 0, .int .i64 0] 24)) = W at hb0 hA hB hR ⊢
  have hS : W.cell? ⟨w.heap.size, 0, none⟩ = some (.int .i64 0) ∧ W.cell? ⟨w.heap.size, 1, none⟩ = some (.int .i64 v) ∧ W.cell? ⟨w.heap.size + 1, 0, none⟩ = some (.int .i64 0) ∧ W.cell? ⟨w.heap.size + 1, 1, none⟩ = some (.int .i64 u) := ⟨hA.kind, hA.val, hB.kind, hB.val⟩
  have HR := hide hR
  clear hA hB hR
  go_region_held3 (fun w' => w'.cell? ⟨w.heap.size, 0, none⟩ = some (.int .i64 0) ∧ w'.cell? ⟨w.heap.size, 1, none⟩ = some (.int .i64 v) ∧ w'.cell? ⟨w.heap.size + 1, 0, none⟩ = some (.int .i64 0) ∧ w'.cell? ⟨w.heap.size + 1, 1, none⟩ = some (.int .i64 u))
    (first | exact hS | exact hSp | exact hSq | exact hSz)
    (first
      | (go_at_call 18; refine (unhide HN _).mono ?_; rintro e wp ⟨rfl, hbp⟩; (have hSp : wp.cell? ⟨w.heap.size, 0, none⟩ = some (.int .i64 0) ∧ wp.cell? ⟨w.heap.size, 1, none⟩ = some (.int .i64 v) ∧ wp.cell? ⟨w.heap.size + 1, 0, none⟩ = some (.int .i64 0) ∧ wp.cell? ⟨w.heap.size + 1, 1, none⟩ = some (.int .i64 u) := ⟨kept_cell (w := W.drew) hbp hS.1, kept_cell (w := W.drew) hbp hS.2.1, kept_cell (w := W.drew) hbp hS.2.2.1, kept_cell (w := W.drew) hbp hS.2.2.2⟩))
      | (go_at_call 6; refine (unhide HA _).mono ?_; rintro e wq ⟨rfl, hbq⟩; (have hSq : wq.cell? ⟨w.heap.size, 0, none⟩ = some (.int .i64 0) ∧ wq.cell? ⟨w.heap.size, 1, none⟩ = some (.int .i64 v) ∧ wq.cell? ⟨w.heap.size + 1, 0, none⟩ = some (.int .i64 0) ∧ wq.cell? ⟨w.heap.size + 1, 1, none⟩ = some (.int .i64 u) := ⟨kept_cell hbq hSp.1, kept_cell hbq hSp.2.1, kept_cell hbq hSp.2.2.1, kept_cell hbq hSp.2.2.2⟩); (have hRq := ((NumAt.below (w := W.drew) ⟨(unhide HR).kind, (unhide HR).val, (unhide HR).o0, (unhide HR).o1⟩ hbp).below hbq)); obtain ⟨z0, z1, z2, z3⟩ := hRq; (have hSz : (putN wq (w.heap.size + 1 + 1) K U).cell? ⟨w.heap.size, 0, none⟩ = some (.int .i64 0) ∧ (putN wq (w.heap.size + 1 + 1) K U).cell? ⟨w.heap.size, 1, none⟩ = some (.int .i64 v) ∧ (putN wq (w.heap.size + 1 + 1) K U).cell? ⟨w.heap.size + 1, 0, none⟩ = some (.int .i64 0) ∧ (putN wq (w.heap.size + 1 + 1) K U).cell? ⟨w.heap.size + 1, 1, none⟩ = some (.int .i64 u) := by unfold putN; simp [go_sem, hSq])))
  have hRq := ((NumAt.below (w := W.drew) ⟨(unhide HR).kind, (unhide HR).val, (unhide HR).o0, (unhide HR).o1⟩ hbp).below hbq)
  have hP := hRq.put K U
  have hBf := putN_below (Below.then hb0.drew (Below.then hbp hbq)) (show w.heap.size ≤ w.heap.size + 1 + 1 by omega) K U
  clear hRq hS hSp hSq hSz z0 z1 z2 z3 HR HN HA
  go_wp2
  show bodyPost _ _ _ _ _ (putN wq (w.heap.size + 1 + 1) K U)
  generalize putN wq (w.heap.size + 1 + 1) K U = X at hP hBf ⊢
  obtain ⟨x0, x1, _, _⟩ := hP
  refine bodyPost_ret (v := .agg #[.int .i64 K, .int .i64 U]) ?_ rfl ⟨rfl, hBf⟩
  simp [results, Tryz.results7, go_sem, x0, x1]
end Go.Proofs.YtmaefnmjfkbplaaGreatDoor
