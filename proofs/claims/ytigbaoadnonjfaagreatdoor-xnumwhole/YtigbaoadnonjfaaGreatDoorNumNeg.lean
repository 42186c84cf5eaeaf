/- Whole numbers around one: xnum's Neg, Floor, Ceiling, Round, and the reference's. -/
import Derived.Test.YtigbaoadnonjfaaGreatDoorNumNamed
namespace Go.Proofs.YtigbaoadnonjfaaGreatDoor
open Go.RowKit
def negK (k : Int) : Int := if k = 1 then 1 else if k = 2 then 3 else if k = 3 then 2 else 0
def negV (k v : Int) : Int := if k = 1 then 0 else if k = 2 then 0 else if k = 3 then 0 else wrap64 (-v)
set_option maxHeartbeats 1000000 in
theorem neg_any (k v : Int) (w : World) :
    Calls Tryz.prog 35 #[.agg #[.int .i64 k, .int .i64 v]] w fun e w' => e = .returned (.agg #[.int .i64 (negK k), .int .i64 (negV k v)]) ∧ Below w.heap.size w w' := by
  unfold negK negV
  by_cases h1 : k = 1
  · subst h1
    simp only [if_pos]
    go_enter Tryz.func35, Tryz.ntmps35
    go_wp2_with (first | (go_at_call 29; refine (isNaN_any _ _ _).mono ?_; rintro e w' ⟨rfl, rfl⟩) | (go_at_call 30; refine (isInfinite_any _ _ _).mono ?_; rintro e w' ⟨rfl, rfl⟩) | (go_at_call 40; refine (isZero_any _ _ _).mono ?_; rintro e w' ⟨rfl, rfl⟩) | (go_at_call 45; refine (isBelow_any _ _ _).mono ?_; rintro e w' ⟨rfl, rfl⟩) | (go_at_call 41; refine (notANumber_any _).mono ?_; rintro e w' ⟨rfl, rfl⟩) | (go_at_call 38; refine (infinite_any _ _).mono ?_; rintro e w' ⟨rfl, rfl⟩))
    refine bodyPost_ret (v := .agg #[.int .i64 1, .int .i64 0]) (by simp [results, Tryz.results35, go_sem]) rfl ?_
    refine ⟨rfl, ?_⟩
    (repeat first | exact Below.refl _ _ | assumption | refine Below.drew ?_ | refine Below.alloc ?_ (by simp <;> omega) _ | refine Below.setCell ?_ (by simp <;> omega) _)
  · have e1 : (k == 1) = false := by simpa using h1
    by_cases h2 : k = 2
    · subst h2
      have HB : belowB 2 v = false := by simp [belowB]
      have HI : infK true = 3 := rfl
      simp only [if_neg h1, if_pos]
      go_enter Tryz.func35, Tryz.ntmps35
      go_wp2_with (first | (go_at_call 29; refine (isNaN_any _ _ _).mono ?_; rintro e w' ⟨rfl, rfl⟩) | (go_at_call 30; refine (isInfinite_any _ _ _).mono ?_; rintro e w' ⟨rfl, rfl⟩) | (go_at_call 40; refine (isZero_any _ _ _).mono ?_; rintro e w' ⟨rfl, rfl⟩) | (go_at_call 45; refine (isBelow_any _ _ _).mono ?_; rintro e w' ⟨rfl, rfl⟩) | (go_at_call 41; refine (notANumber_any _).mono ?_; rintro e w' ⟨rfl, rfl⟩) | (go_at_call 38; refine (infinite_any _ _).mono ?_; rintro e w' ⟨rfl, rfl⟩))
      refine bodyPost_ret (v := .agg #[.int .i64 3, .int .i64 0]) (by simp [results, Tryz.results35, go_sem]) rfl ?_
      refine ⟨rfl, ?_⟩
      (repeat first | exact Below.refl _ _ | assumption | refine Below.drew ?_ | refine Below.alloc ?_ (by simp <;> omega) _ | refine Below.setCell ?_ (by simp <;> omega) _)
    · by_cases h3 : k = 3
      · subst h3
        have HB : belowB 3 v = true := by simp [belowB]
        have HI : infK false = 2 := rfl
        simp only [if_neg h1, if_neg h2, if_pos]
        go_enter Tryz.func35, Tryz.ntmps35
        go_wp2_with (first | (go_at_call 29; refine (isNaN_any _ _ _).mono ?_; rintro e w' ⟨rfl, rfl⟩) | (go_at_call 30; refine (isInfinite_any _ _ _).mono ?_; rintro e w' ⟨rfl, rfl⟩) | (go_at_call 40; refine (isZero_any _ _ _).mono ?_; rintro e w' ⟨rfl, rfl⟩) | (go_at_call 45; refine (isBelow_any _ _ _).mono ?_; rintro e w' ⟨rfl, rfl⟩) | (go_at_call 41; refine (notANumber_any _).mono ?_; rintro e w' ⟨rfl, rfl⟩) | (go_at_call 38; refine (infinite_any _ _).mono ?_; rintro e w' ⟨rfl, rfl⟩))
        refine bodyPost_ret (v := .agg #[.int .i64 2, .int .i64 0]) (by simp [results, Tryz.results35, go_sem]) rfl ?_
        refine ⟨rfl, ?_⟩
        (repeat first | exact Below.refl _ _ | assumption | refine Below.drew ?_ | refine Below.alloc ?_ (by simp <;> omega) _ | refine Below.setCell ?_ (by simp <;> omega) _)
      · have hi : infB k = false := by simp [infB, h2, h3]
        simp only [if_neg h1, if_neg h2, if_neg h3]
        clear h1 h2 h3
        go_enter Tryz.func35, Tryz.ntmps35
        go_wp2_with (first | (go_at_call 29; refine (isNaN_any _ _ _).mono ?_; rintro e w' ⟨rfl, rfl⟩) | (go_at_call 30; refine (isInfinite_any _ _ _).mono ?_; rintro e w' ⟨rfl, rfl⟩) | (go_at_call 40; refine (isZero_any _ _ _).mono ?_; rintro e w' ⟨rfl, rfl⟩) | (go_at_call 45; refine (isBelow_any _ _ _).mono ?_; rintro e w' ⟨rfl, rfl⟩) | (go_at_call 41; refine (notANumber_any _).mono ?_; rintro e w' ⟨rfl, rfl⟩) | (go_at_call 38; refine (infinite_any _ _).mono ?_; rintro e w' ⟨rfl, rfl⟩))
        refine bodyPost_ret (v := .agg #[.int .i64 0, .int .i64 (wrap64 (-v))]) (by simp [results, Tryz.results35, go_sem]) rfl ?_
        refine ⟨rfl, ?_⟩
        (repeat first | exact Below.refl _ _ | assumption | refine Below.drew ?_ | refine Below.alloc ?_ (by simp <;> omega) _ | refine Below.setCell ?_ (by simp <;> omega) _)
theorem tmod_emod (v : Int) : -1000000 < v.tmod 1000000 ∧ v.tmod 1000000 < 1000000 ∧ (v.tmod 1000000 < 0 → v % 1000000 = v.tmod 1000000 + 1000000) ∧ (0 ≤ v.tmod 1000000 → v % 1000000 = v.tmod 1000000) := by
  have h := Int.tmod_eq_emod (a := v) (b := 1000000)
  rw [h]
  have h1 : 0 ≤ v % 1000000 := Int.emod_nonneg _ (by decide)
  have h2 : v % 1000000 < 1000000 := Int.emod_lt_of_pos _ (by decide)
  split
  · simp only [show (((0 : Nat)) : Int) = 0 from rfl]
    omega
  · simp only [show ((Int.natAbs 1000000 : Nat) : Int) = 1000000 from rfl]
    omega
set_option maxHeartbeats 1000000 in
theorem floor_fin (v : Int) (w : World) :
    Calls Tryz.prog 15 #[.agg #[.int .i64 0, .int .i64 v]] w fun e w' => e = .returned (.agg #[.int .i64 0, .int .i64 (wrap64 (v - v % 1000000))]) ∧ Below w.heap.size w w' := by
  obtain ⟨b1, b2, b3, b4⟩ := tmod_emod v
  have B3 := hide b3
  have B4 := hide b4
  clear b3 b4
  go_enter Tryz.func15, Tryz.ntmps15
  go_wp2
  · have hl : v.tmod 1000000 < 0 := by assumption
    refine bodyPost_ret (v := .agg #[.int .i64 0, .int .i64 (wrap64 (v - (v.tmod 1000000 + 1000000)))]) (by simp [results, Tryz.results15, go_sem]) rfl ?_
    rw [unhide B3 hl]
    refine ⟨rfl, ?_⟩
    (repeat first | exact Below.refl _ _ | assumption | refine Below.drew ?_ | refine Below.alloc ?_ (by simp <;> omega) _ | refine Below.setCell ?_ (by simp <;> omega) _)
  · have hl : 0 ≤ v.tmod 1000000 := by assumption
    refine bodyPost_ret (v := .agg #[.int .i64 0, .int .i64 (wrap64 (v - v.tmod 1000000))]) (by simp [results, Tryz.results15, go_sem]) rfl ?_
    rw [unhide B4 hl]
    refine ⟨rfl, ?_⟩
    (repeat first | exact Below.refl _ _ | assumption | refine Below.drew ?_ | refine Below.alloc ?_ (by simp <;> omega) _ | refine Below.setCell ?_ (by simp <;> omega) _)
set_option maxHeartbeats 1000000 in
theorem floor_not (k v : Int) (w : World) (h : (k == 0) = false) :
    Calls Tryz.prog 15 #[.agg #[.int .i64 k, .int .i64 v]] w fun e w' => e = .returned (.agg #[.int .i64 k, .int .i64 v]) ∧ Below w.heap.size w w' := by
  go_enter Tryz.func15, Tryz.ntmps15
  go_wp2
  refine bodyPost_ret (v := .agg #[.int .i64 k, .int .i64 v]) (by simp [results, Tryz.results15, go_sem]) rfl ?_
  refine ⟨rfl, ?_⟩
  (repeat first | exact Below.refl _ _ | assumption | refine Below.drew ?_ | refine Below.alloc ?_ (by simp <;> omega) _ | refine Below.setCell ?_ (by simp <;> omega) _)
set_option maxHeartbeats 1000000 in
theorem ceiling_not (k v : Int) (w : World) (h : (k == 0) = false) :
    Calls Tryz.prog 16 #[.agg #[.int .i64 k, .int .i64 v]] w fun e w' => e = .returned (.agg #[.int .i64 k, .int .i64 v]) ∧ Below w.heap.size w w' := by
  go_enter Tryz.func16, Tryz.ntmps16
  go_wp2
  refine bodyPost_ret (v := .agg #[.int .i64 k, .int .i64 v]) (by simp [results, Tryz.results16, go_sem]) rfl ?_
  refine ⟨rfl, ?_⟩
  (repeat first | exact Below.refl _ _ | assumption | refine Below.drew ?_ | refine Below.alloc ?_ (by simp <;> omega) _ | refine Below.setCell ?_ (by simp <;> omega) _)
set_option maxHeartbeats 1000000 in
theorem round_not (k v : Int) (w : World) (h : (k == 0) = false) :
    Calls Tryz.prog 17 #[.agg #[.int .i64 k, .int .i64 v]] w fun e w' => e = .returned (.agg #[.int .i64 k, .int .i64 v]) ∧ Below w.heap.size w w' := by
  go_enter Tryz.func17, Tryz.ntmps17
  go_wp2
  refine bodyPost_ret (v := .agg #[.int .i64 k, .int .i64 v]) (by simp [results, Tryz.results17, go_sem]) rfl ?_
  refine ⟨rfl, ?_⟩
  (repeat first | exact Below.refl _ _ | assumption | refine Below.drew ?_ | refine Below.alloc ?_ (by simp <;> omega) _ | refine Below.setCell ?_ (by simp <;> omega) _)
set_option maxHeartbeats 1000000 in
theorem round_fin (v : Int) (w : World) :
    Calls Tryz.prog 17 #[.agg #[.int .i64 0, .int .i64 v]] w fun e w' => e = .returned (.agg #[.int .i64 0, .int .i64 (wrap64 (wrap64 (v + 500000) - wrap64 (v + 500000) % 1000000))]) ∧ Below w.heap.size w w' := by
  have HF := hide (fun w => floor_fin (wrap64 (v + 500000)) w)
  generalize wrap64 (wrap64 (v + 500000) - wrap64 (v + 500000) % 1000000) = z at *
  go_enter Tryz.func17, Tryz.ntmps17
  go_wp2_with fail
  refine (unhide HF _).mono ?_
  rintro e w1 ⟨rfl, hb⟩
  obtain ⟨q0, q1, q2, q3⟩ := NumAt.below (b := w.heap.size + 1) (k := 0) (v := 0) ⟨by simp [go_sem], by simp [go_sem], by simp [go_sem], by simp [go_sem]⟩ hb
  have hfin : Below w.heap.size w w1 := Below.then (by (repeat first | exact Below.refl _ _ | assumption | refine Below.drew ?_ | refine Below.alloc ?_ (by simp <;> omega) _ | refine Below.setCell ?_ (by simp <;> omega) _)) hb
  go_wp2
  refine bodyPost_ret (v := .agg #[.int .i64 0, .int .i64 z]) (by simp [results, Tryz.results17, go_sem, *]) rfl ⟨rfl, ?_⟩
  (repeat first | exact Below.refl _ _ | assumption | refine Below.drew ?_ | refine Below.alloc ?_ (by simp <;> omega) _ | refine Below.setCell ?_ (by simp <;> omega) _)
set_option maxHeartbeats 1000000 in
theorem ceiling_fin (v : Int) (w : World) :
    Calls Tryz.prog 16 #[.agg #[.int .i64 0, .int .i64 v]] w fun e w' => e = .returned (.agg #[.int .i64 0, .int .i64 (wrap64 (-(wrap64 (wrap64 (-v) - wrap64 (-v) % 1000000))))]) ∧ Below w.heap.size w w' := by
  have HN := hide (show ∀ w, Calls Tryz.prog 35 #[.agg #[.int .i64 0, .int .i64 v]] w fun e w' => e = .returned (.agg #[.int .i64 0, .int .i64 (wrap64 (-v))]) ∧ Below w.heap.size w w' from fun w => neg_any 0 v w)
  have HF := hide (fun w => floor_fin (wrap64 (-v)) w)
  have HM := hide (show ∀ z w, Calls Tryz.prog 35 #[.agg #[.int .i64 0, .int .i64 z]] w fun e w' => e = .returned (.agg #[.int .i64 0, .int .i64 (wrap64 (-z))]) ∧ Below w.heap.size w w' from fun z w => neg_any 0 z w)
  have HM := hide (unhide HM (wrap64 (wrap64 (-v) - wrap64 (-v) % 1000000)))
  generalize wrap64 (-(wrap64 (wrap64 (-v) - wrap64 (-v) % 1000000))) = y at *
  generalize wrap64 (wrap64 (-v) - wrap64 (-v) % 1000000) = z at *
  generalize wrap64 (-v) = x at *
  go_enter Tryz.func16, Tryz.ntmps16
  go_wp2_with fail
  refine (unhide HN _).mono ?_
  rintro e w1 ⟨rfl, hb⟩
  have hr := NumAt.below (b := w.heap.size + 1) (k := 0) (v := 0) ⟨by simp [go_sem], by simp [go_sem], by simp [go_sem], by simp [go_sem]⟩ hb
  have hf1 : Below w.heap.size w w1 := Below.then (by (repeat first | exact Below.refl _ _ | assumption | refine Below.drew ?_ | refine Below.alloc ?_ (by simp <;> omega) _ | refine Below.setCell ?_ (by simp <;> omega) _)) hb
  go_wp2_with fail
  refine (unhide HF _).mono ?_
  rintro e w2 ⟨rfl, hb2⟩
  go_wp2_with fail
  refine (unhide HM _).mono ?_
  rintro e w3 ⟨rfl, hb3⟩
  obtain ⟨q0, q1, q2, q3⟩ := (hr.below hb2).below hb3
  have hfin : Below w.heap.size w w3 := Below.then hf1 (Below.then hb2 hb3)
  go_wp2
  refine bodyPost_ret (v := .agg #[.int .i64 0, .int .i64 y]) (by simp [results, Tryz.results16, go_sem, *]) rfl ⟨rfl, ?_⟩
  (repeat first | exact Below.refl _ _ | assumption | refine Below.drew ?_ | refine Below.alloc ?_ (by simp <;> omega) _ | refine Below.setCell ?_ (by simp <;> omega) _)
set_option maxHeartbeats 1000000 in
theorem refFin_any (v : Int) (w : World) :
    Calls Tryz.prog 36 #[.int .i64 v] w fun e w' => e = .returned (.agg #[.int .i64 0, .int .i64 v]) ∧ Below w.heap.size w w' := by
  go_enter Tryz.func36, Tryz.ntmps36
  go_wp2
  refine bodyPost_ret (v := .agg #[.int .i64 0, .int .i64 v]) (by simp [results, Tryz.results36, go_sem]) rfl ?_
  refine ⟨rfl, ?_⟩
  (repeat first | exact Below.refl _ _ | assumption | refine Below.drew ?_ | refine Below.alloc ?_ (by simp <;> omega) _ | refine Below.setCell ?_ (by simp <;> omega) _)
set_option maxHeartbeats 1000000 in
theorem refFloor_not (k v : Int) (w : World) (h : (k == 0) = false) :
    Calls Tryz.prog 19 #[.agg #[.int .i64 k, .int .i64 v]] w fun e w' => e = .returned (.agg #[.int .i64 k, .int .i64 v]) ∧ Below w.heap.size w w' := by
  go_enter Tryz.func19, Tryz.ntmps19
  go_wp2
  refine bodyPost_ret (v := .agg #[.int .i64 k, .int .i64 v]) (by simp [results, Tryz.results19, go_sem]) rfl ?_
  refine ⟨rfl, ?_⟩
  (repeat first | exact Below.refl _ _ | assumption | refine Below.drew ?_ | refine Below.alloc ?_ (by simp <;> omega) _ | refine Below.setCell ?_ (by simp <;> omega) _)
set_option maxHeartbeats 1000000 in
theorem refRound_not (k v : Int) (w : World) (h : (k == 0) = false) :
    Calls Tryz.prog 21 #[.agg #[.int .i64 k, .int .i64 v]] w fun e w' => e = .returned (.agg #[.int .i64 k, .int .i64 v]) ∧ Below w.heap.size w w' := by
  go_enter Tryz.func21, Tryz.ntmps21
  go_wp2
  refine bodyPost_ret (v := .agg #[.int .i64 k, .int .i64 v]) (by simp [results, Tryz.results21, go_sem]) rfl ?_
  refine ⟨rfl, ?_⟩
  (repeat first | exact Below.refl _ _ | assumption | refine Below.drew ?_ | refine Below.alloc ?_ (by simp <;> omega) _ | refine Below.setCell ?_ (by simp <;> omega) _)
end Go.Proofs.YtigbaoadnonjfaaGreatDoor
