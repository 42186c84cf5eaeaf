/- The reference's whole numbers around one: stencilref02's Fin, Inf, Nan, Neg, Floor, Ceiling, Round and Int; xnum's Right. -/
import Derived.Test.YtnpdjddebeipiaaGreatDoorNumNeg
import Derived.Test.YtnpdjddebeipiaaGreatDoorNumXRight
import Derived.Test.YtnpdjddebeipiaaGreatDoorGam
import Derived.Test.YtnpdjddebeipiaaGreatDoorNumMath
namespace Go.Proofs.YtnpdjddebeipiaaGreatDoor
open Go.RowKit
set_option maxHeartbeats 1000000 in
theorem fin_ex (v : Int) (w : World) :
    Calls Tryz.prog 39 #[.int .i64 v] w fun e w' => e = .returned (.agg #[.int .i64 0, .int .i64 v]) ∧ w' = w.alloc (.cells #[.int .i64 0, .int .i64 v] 24) := by
  go_enter Tryz.func39, Tryz.ntmps39
  go_wp2
  refine bodyPost_ret (v := .agg #[.int .i64 0, .int .i64 v]) (by simp [results, Tryz.results39, go_sem]) rfl ?_
  exact ⟨rfl, rfl⟩
set_option maxHeartbeats 1000000 in
theorem nan_ex (w : World) :
    Calls Tryz.prog 32 #[] w fun e w' => e = .returned (.agg #[.int .i64 1, .int .i64 0]) ∧ w' = w.alloc (.cells #[.int .i64 1, .int .i64 0] 24) := by
  go_enter Tryz.func32, Tryz.ntmps32
  go_wp2
  refine bodyPost_ret (v := .agg #[.int .i64 1, .int .i64 0]) (by simp [results, Tryz.results32, go_sem]) rfl ?_
  exact ⟨rfl, rfl⟩
set_option maxHeartbeats 1000000 in
theorem inf_ex (b : Bool) (w : World) :
    Calls Tryz.prog 35 #[.bool b] w fun e w' => e = .returned (.agg #[.int .i64 (infK b), .int .i64 0]) ∧ w' = w.alloc (.cells #[.int .i64 (infK b), .int .i64 0] 24) := by
  cases b
  · go_enter Tryz.func35, Tryz.ntmps35
    go_wp2
    refine bodyPost_ret (v := .agg #[.int .i64 2, .int .i64 0]) (by simp [results, Tryz.results35, go_sem]) rfl ?_
    exact ⟨rfl, rfl⟩
  · go_enter Tryz.func35, Tryz.ntmps35
    go_wp2
    refine bodyPost_ret (v := .agg #[.int .i64 3, .int .i64 0]) (by simp [results, Tryz.results35, go_sem]) rfl ?_
    exact ⟨rfl, rfl⟩
set_option maxHeartbeats 1000000 in
theorem refNeg_any (k v : Int) (w : World) :
    Calls Tryz.prog 17 #[.agg #[.int .i64 k, .int .i64 v]] w fun e w' => e = .returned (.agg #[.int .i64 (negK k), .int .i64 (negV k v)]) ∧ Below w.heap.size w w' := by
  unfold negK negV
  have i1 : infK true = 3 := rfl
  have i2 : infK false = 2 := rfl
  by_cases h1 : k = 1
  · subst h1
    simp only [if_pos]
    go_enter Tryz.func17, Tryz.ntmps17
    go_wp2_with (go_at_call 32; refine (nan_ex _).mono ?_; rintro e w' ⟨rfl, rfl⟩)
    refine bodyPost_ret (v := .agg #[.int .i64 1, .int .i64 0]) (by simp [results, Tryz.results17, go_sem]) rfl ?_
    refine ⟨rfl, ?_⟩
    (repeat first | exact Below.refl _ _ | assumption | refine Below.drew ?_ | refine Below.alloc ?_ (by simp <;> omega) _ | refine Below.setCell ?_ (by simp <;> omega) _)
  · have e1 : (k == 1) = false := by simpa using h1
    by_cases h2 : k = 2
    · subst h2
      simp only [if_neg h1, if_pos]
      go_enter Tryz.func17, Tryz.ntmps17
      go_wp2_with (go_at_call 35; refine (inf_ex _ _).mono ?_; rintro e w' ⟨rfl, rfl⟩)
      refine bodyPost_ret (v := .agg #[.int .i64 3, .int .i64 0]) (by simp [results, Tryz.results17, go_sem]) rfl ?_
      refine ⟨rfl, ?_⟩
      (repeat first | exact Below.refl _ _ | assumption | refine Below.drew ?_ | refine Below.alloc ?_ (by simp <;> omega) _ | refine Below.setCell ?_ (by simp <;> omega) _)
    · have e2 : (k == 2) = false := by simpa using h2
      by_cases h3 : k = 3
      · subst h3
        simp only [if_neg h1, if_neg h2, if_pos]
        go_enter Tryz.func17, Tryz.ntmps17
        go_wp2_with (go_at_call 35; refine (inf_ex _ _).mono ?_; rintro e w' ⟨rfl, rfl⟩)
        refine bodyPost_ret (v := .agg #[.int .i64 2, .int .i64 0]) (by simp [results, Tryz.results17, go_sem]) rfl ?_
        refine ⟨rfl, ?_⟩
        (repeat first | exact Below.refl _ _ | assumption | refine Below.drew ?_ | refine Below.alloc ?_ (by simp <;> omega) _ | refine Below.setCell ?_ (by simp <;> omega) _)
      · have e3 : (k == 3) = false := by simpa using h3
        simp only [if_neg h1, if_neg h2, if_neg h3]
        clear h1 h2 h3
        go_enter Tryz.func17, Tryz.ntmps17
        go_wp2_with (go_at_call 39; refine (fin_ex _ _).mono ?_; rintro e w' ⟨rfl, rfl⟩)
        refine bodyPost_ret (v := .agg #[.int .i64 0, .int .i64 (wrap64 (-v))]) (by simp [results, Tryz.results17, go_sem]) rfl ?_
        refine ⟨rfl, ?_⟩
        (repeat first | exact Below.refl _ _ | assumption | refine Below.drew ?_ | refine Below.alloc ?_ (by simp <;> omega) _ | refine Below.setCell ?_ (by simp <;> omega) _)
end Go.Proofs.YtnpdjddebeipiaaGreatDoor
