/- Whole numbers around one: xnum's Neg, Floor, Ceiling, Round, and the reference's. -/
import Derived.Test.YtnpdjddebeipiaaGreatDoorNumNamed
namespace Go.Proofs.YtnpdjddebeipiaaGreatDoor
open Go.RowKit
def negK (k : Int) : Int := if k = 1 then 1 else if k = 2 then 3 else if k = 3 then 2 else 0
def negV (k v : Int) : Int := if k = 1 then 0 else if k = 2 then 0 else if k = 3 then 0 else wrap64 (-v)
set_option maxHeartbeats 1000000 in
theorem neg_any (k v : Int) (w : World) :
    Calls Tryz.prog 16 #[.agg #[.int .i64 k, .int .i64 v]] w fun e w' => e = .returned (.agg #[.int .i64 (negK k), .int .i64 (negV k v)]) ∧ Below w.heap.size w w' := by
  unfold negK negV
  by_cases h1 : k = 1
  · subst h1
    simp only [if_pos]
    go_enter Tryz.func16, Tryz.ntmps16
    go_wp2_with (first | (go_at_call 18; refine (isNaN_any _ _ _).mono ?_; rintro e w' ⟨rfl, rfl⟩) | (go_at_call 20; refine (isInfinite_any _ _ _).mono ?_; rintro e w' ⟨rfl, rfl⟩) | (go_at_call 25; refine (isZero_any _ _ _).mono ?_; rintro e w' ⟨rfl, rfl⟩) | (go_at_call 22; refine (isBelow_any _ _ _).mono ?_; rintro e w' ⟨rfl, rfl⟩) | (go_at_call 19; refine (notANumber_any _).mono ?_; rintro e w' ⟨rfl, rfl⟩) | (go_at_call 21; refine (infinite_any _ _).mono ?_; rintro e w' ⟨rfl, rfl⟩))
    refine bodyPost_ret (v := .agg #[.int .i64 1, .int .i64 0]) (by simp [results, Tryz.results16, go_sem]) rfl ?_
    refine ⟨rfl, ?_⟩
    (repeat first | exact Below.refl _ _ | assumption | refine Below.drew ?_ | refine Below.alloc ?_ (by simp <;> omega) _ | refine Below.setCell ?_ (by simp <;> omega) _)
  · have e1 : (k == 1) = false := by simpa using h1
    by_cases h2 : k = 2
    · subst h2
      have HB : belowB 2 v = false := by simp [belowB]
      have HI : infK true = 3 := rfl
      simp only [if_neg h1, if_pos]
      go_enter Tryz.func16, Tryz.ntmps16
      go_wp2_with (first | (go_at_call 18; refine (isNaN_any _ _ _).mono ?_; rintro e w' ⟨rfl, rfl⟩) | (go_at_call 20; refine (isInfinite_any _ _ _).mono ?_; rintro e w' ⟨rfl, rfl⟩) | (go_at_call 25; refine (isZero_any _ _ _).mono ?_; rintro e w' ⟨rfl, rfl⟩) | (go_at_call 22; refine (isBelow_any _ _ _).mono ?_; rintro e w' ⟨rfl, rfl⟩) | (go_at_call 19; refine (notANumber_any _).mono ?_; rintro e w' ⟨rfl, rfl⟩) | (go_at_call 21; refine (infinite_any _ _).mono ?_; rintro e w' ⟨rfl, rfl⟩))
      refine bodyPost_ret (v := .agg #[.int .i64 3, .int .i64 0]) (by simp [results, Tryz.results16, go_sem]) rfl ?_
      refine ⟨rfl, ?_⟩
      (repeat first | exact Below.refl _ _ | assumption | refine Below.drew ?_ | refine Below.alloc ?_ (by simp <;> omega) _ | refine Below.setCell ?_ (by simp <;> omega) _)
    · by_cases h3 : k = 3
      · subst h3
        have HB : belowB 3 v = true := by simp [belowB]
        have HI : infK false = 2 := rfl
        simp only [if_neg h1, if_neg h2, if_pos]
        go_enter Tryz.func16, Tryz.ntmps16
        go_wp2_with (first | (go_at_call 18; refine (isNaN_any _ _ _).mono ?_; rintro e w' ⟨rfl, rfl⟩) | (go_at_call 20; refine (isInfinite_any _ _ _).mono ?_; rintro e w' ⟨rfl, rfl⟩) | (go_at_call 25; refine (isZero_any _ _ _).mono ?_; rintro e w' ⟨rfl, rfl⟩) | (go_at_call 22; refine (isBelow_any _ _ _).mono ?_; rintro e w' ⟨rfl, rfl⟩) | (go_at_call 19; refine (notANumber_any _).mono ?_; rintro e w' ⟨rfl, rfl⟩) | (go_at_call 21; refine (infinite_any _ _).mono ?_; rintro e w' ⟨rfl, rfl⟩))
        refine bodyPost_ret (v := .agg #[.int .i64 2, .int .i64 0]) (by simp [results, Tryz.results16, go_sem]) rfl ?_
        refine ⟨rfl, ?_⟩
        (repeat first | exact Below.refl _ _ | assumption | refine Below.drew ?_ | refine Below.alloc ?_ (by simp <;> omega) _ | refine Below.setCell ?_ (by simp <;> omega) _)
      · have hi : infB k = false := by simp [infB, h2, h3]
        simp only [if_neg h1, if_neg h2, if_neg h3]
        clear h1 h2 h3
        go_enter Tryz.func16, Tryz.ntmps16
        go_wp2_with (first | (go_at_call 18; refine (isNaN_any _ _ _).mono ?_; rintro e w' ⟨rfl, rfl⟩) | (go_at_call 20; refine (isInfinite_any _ _ _).mono ?_; rintro e w' ⟨rfl, rfl⟩) | (go_at_call 25; refine (isZero_any _ _ _).mono ?_; rintro e w' ⟨rfl, rfl⟩) | (go_at_call 22; refine (isBelow_any _ _ _).mono ?_; rintro e w' ⟨rfl, rfl⟩) | (go_at_call 19; refine (notANumber_any _).mono ?_; rintro e w' ⟨rfl, rfl⟩) | (go_at_call 21; refine (infinite_any _ _).mono ?_; rintro e w' ⟨rfl, rfl⟩))
        refine bodyPost_ret (v := .agg #[.int .i64 0, .int .i64 (wrap64 (-v))]) (by simp [results, Tryz.results16, go_sem]) rfl ?_
        refine ⟨rfl, ?_⟩
        (repeat first | exact Below.refl _ _ | assumption | refine Below.drew ?_ | refine Below.alloc ?_ (by simp <;> omega) _ | refine Below.setCell ?_ (by simp <;> omega) _)
end Go.Proofs.YtnpdjddebeipiaaGreatDoor
