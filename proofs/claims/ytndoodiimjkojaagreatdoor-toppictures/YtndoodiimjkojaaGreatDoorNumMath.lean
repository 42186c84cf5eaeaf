/- Whole numbers, quotients and rests: xnum's Int, Div and Mod. -/
import Derived.Test.YtndoodiimjkojaaGreatDoorNumNamed
import Derived.Deep.RegionWith
import Derived.Deep.DeepCutAuto
namespace Go.Proofs.YtndoodiimjkojaaGreatDoor
open Go.RowKit
def intK (n : Int) : Int := if n < -1000000000000 then 3 else if 1000000000000 < n then 2 else 0
def intV (n : Int) : Int := if n < -1000000000000 then 0 else if 1000000000000 < n then 0 else n * 1000000
set_option maxHeartbeats 1000000 in
theorem int_any (n : Int) (w : World) (h1 : -9223372036854775808 ≤ n) (h2 : n ≤ 9223372036854775807) :
    Calls Tryz.prog 6 #[.int .i64 n] w fun e w' => e = .returned (.agg #[.int .i64 (intK n), .int .i64 (intV n)]) ∧ Below w.heap.size w w' := by
  unfold intK intV
  by_cases h3 : n < -1000000000000
  · have h3' : n < 0 := by omega
    simp only [if_pos h3]
    go_enter Tryz.func6, Tryz.ntmps6
    go_wp2_with (go_at_call 14; refine (infinite_any _ _).mono ?_; rintro e w' ⟨rfl, rfl⟩)
    refine bodyPost_ret (v := .agg #[.int .i64 3, .int .i64 0]) (by simp [results, Tryz.results6, go_sem, infK]) rfl ⟨rfl, ?_⟩
    (repeat first | exact Below.refl _ _ | assumption | refine Below.drew ?_ | refine Below.alloc ?_ (by simp <;> omega) _ | refine Below.setCell ?_ (by simp <;> omega) _)
  · by_cases h4 : 1000000000000 < n
    · have h4' : ¬ n < 0 := by omega
      simp only [if_neg h3, if_pos h4]
      go_enter Tryz.func6, Tryz.ntmps6
      go_wp2_with (go_at_call 14; refine (infinite_any _ _).mono ?_; rintro e w' ⟨rfl, rfl⟩)
      refine bodyPost_ret (v := .agg #[.int .i64 2, .int .i64 0]) (by simp [results, Tryz.results6, go_sem, infK]) rfl ⟨rfl, ?_⟩
      (repeat first | exact Below.refl _ _ | assumption | refine Below.drew ?_ | refine Below.alloc ?_ (by simp <;> omega) _ | refine Below.setCell ?_ (by simp <;> omega) _)
    · simp only [if_neg h3, if_neg h4]
      go_enter Tryz.func6, Tryz.ntmps6
      go_wp2
      refine bodyPost_ret (v := .agg #[.int .i64 0, .int .i64 (n * 1000000)]) (by simp [results, Tryz.results6, go_sem]) rfl ⟨rfl, ?_⟩
      (repeat first | exact Below.refl _ _ | assumption | refine Below.drew ?_ | refine Below.alloc ?_ (by simp <;> omega) _ | refine Below.setCell ?_ (by simp <;> omega) _)
end Go.Proofs.YtndoodiimjkojaaGreatDoor
