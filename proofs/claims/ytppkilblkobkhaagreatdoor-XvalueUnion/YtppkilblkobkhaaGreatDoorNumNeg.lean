/- Whole numbers around one: xnum's Neg, Floor, Ceiling, Round, and the reference's. -/
import Derived.Test.YtppkilblkobkhaaGreatDoorNumNamed
namespace Go.Proofs.YtppkilblkobkhaaGreatDoor
open Go.RowKit
theorem tmod_emod (v : Int) : -1000000 < v.tmod 1000000 ∧ v.tmod 1000000 < 1000000 ∧ (v.tmod 1000000 < 0 → v % 1000000 = v.tmod 1000000 + 1000000) ∧ (0 ≤ v.tmod 1000000 → v % 1000000 = v.tmod 1000000) := by
  have h := Int.tmod_eq_emod (a := v) (b := 1000000)
  rw [h]
  have h1 : 0 ≤ v % 1000000 := Int.emod_nonneg _ (by decide)
  have h2 : v % 1000000 < 1000000 := Int.emod_lt_of_pos _ (by decide)
  split
  · simp only [show (((0 : Nat)) : Int) = 0 from rfl]
    omega
  · simp only [show ((Int.natAbs 1000000 : Nat) : Int) = 1000000 from rfl]
    omega
set_option maxHeartbeats 1000000 in
theorem floor_fin (v : Int) (w : World) :
    Calls Tryz.prog 68 #[.agg #[.int .i64 0, .int .i64 v]] w fun e w' => e = .returned (.agg #[.int .i64 0, .int .i64 (wrap64 (v - v % 1000000))]) ∧ Below w.heap.size w w' := by
  obtain ⟨b1, b2, b3, b4⟩ := tmod_emod v
  have B3 := hide b3
  have B4 := hide b4
  clear b3 b4
  go_enter Tryz.func68, Tryz.ntmps68
  go_wp2
  · have hl : v.tmod 1000000 < 0 := by assumption
    refine bodyPost_ret (v := .agg #[.int .i64 0, .int .i64 (wrap64 (v - (v.tmod 1000000 + 1000000)))]) (by simp [results, Tryz.results68, go_sem]) rfl ?_
    rw [unhide B3 hl]
    refine ⟨rfl, ?_⟩
    (repeat first | exact Below.refl _ _ | assumption | refine Below.drew ?_ | refine Below.alloc ?_ (by simp <;> omega) _ | refine Below.setCell ?_ (by simp <;> omega) _)
  · have hl : 0 ≤ v.tmod 1000000 := by assumption
    refine bodyPost_ret (v := .agg #[.int .i64 0, .int .i64 (wrap64 (v - v.tmod 1000000))]) (by simp [results, Tryz.results68, go_sem]) rfl ?_
    rw [unhide B4 hl]
    refine ⟨rfl, ?_⟩
    (repeat first | exact Below.refl _ _ | assumption | refine Below.drew ?_ | refine Below.alloc ?_ (by simp <;> omega) _ | refine Below.setCell ?_ (by simp <;> omega) _)
set_option maxHeartbeats 1000000 in
theorem round_fin (v : Int) (w : World) :
    Calls Tryz.prog 70 #[.agg #[.int .i64 0, .int .i64 v]] w fun e w' => e = .returned (.agg #[.int .i64 0, .int .i64 (wrap64 (wrap64 (v + 500000) - wrap64 (v + 500000) % 1000000))]) ∧ Below w.heap.size w w' := by
  have HF := hide (fun w => floor_fin (wrap64 (v + 500000)) w)
  generalize wrap64 (wrap64 (v + 500000) - wrap64 (v + 500000) % 1000000) = z at *
  go_enter Tryz.func70, Tryz.ntmps70
  go_wp2_with fail
  refine (unhide HF _).mono ?_
  rintro e w1 ⟨rfl, hb⟩
  obtain ⟨q0, q1, q2, q3⟩ := NumAt.below (b := w.heap.size + 1) (k := 0) (v := 0) ⟨by simp [go_sem], by simp [go_sem], by simp [go_sem], by simp [go_sem]⟩ hb
  have hfin : Below w.heap.size w w1 := Below.then (by (repeat first | exact Below.refl _ _ | assumption | refine Below.drew ?_ | refine Below.alloc ?_ (by simp <;> omega) _ | refine Below.setCell ?_ (by simp <;> omega) _)) hb
  go_wp2
  refine bodyPost_ret (v := .agg #[.int .i64 0, .int .i64 z]) (by simp [results, Tryz.results70, go_sem, *]) rfl ⟨rfl, ?_⟩
  (repeat first | exact Below.refl _ _ | assumption | refine Below.drew ?_ | refine Below.alloc ?_ (by simp <;> omega) _ | refine Below.setCell ?_ (by simp <;> omega) _)
end Go.Proofs.YtppkilblkobkhaaGreatDoor
