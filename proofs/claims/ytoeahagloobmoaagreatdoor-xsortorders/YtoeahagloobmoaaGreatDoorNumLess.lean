/- xnum's Compare and Less, where the program has no other of xnum's small functions. -/
import Derived.Test.YtoeahagloobmoaaGreatDoorNumOrder
namespace Go.Proofs.YtoeahagloobmoaaGreatDoor
open Go.RowKit
set_option maxHeartbeats 1000000 in
theorem compareN_any (k v l u : Int) (w : World) (h1 : (k == 1) = false) (h2 : (l == 1) = false) :
    Calls Tryz.prog 52 #[.agg #[.int .i64 k, .int .i64 v], .agg #[.int .i64 l, .int .i64 u]] w fun e w' => e = .returned (.tuple #[.int .i64 (cmpV k v l u), .bool true]) ∧ Below w.heap.size w w' := by
  have hc : ∀ b, infB k = b → ∀ c, infB l = c → cmpV k v l u = if b || c then cmpN (rankN k) (rankN l) else cmpN v u := by
    rintro _ rfl _ rfl; rfl
  have HC := hide hc
  clear hc
  cases hk : infB k <;> cases hl : infB l
  all_goals
    have hcv := unhide HC _ hk _ hl
    simp only [Bool.or_false, Bool.or_true, Bool.false_eq_true, if_true, if_false] at hcv
    have HV := hide hcv
    clear hcv
    go_enter Tryz.func52, Tryz.ntmps52
    go_wp2_with (first | (go_at_call 51; refine (isNaN_any _ _ _).mono ?_; rintro e w' ⟨rfl, rfl⟩) | (go_at_call 69; refine (isInfinite_any _ _ _).mono ?_; rintro e w' ⟨rfl, rfl⟩) | (go_at_call 71; refine (rankOf_any _ _ _).mono ?_; rintro e w' ⟨rfl, rfl⟩) | (go_at_call 70; refine (cmpInt_any _ _ _).mono ?_; rintro e w' ⟨rfl, rfl⟩) | (go_at_call 72; refine (cmp64_any _ _ _).mono ?_; rintro e w' ⟨rfl, rfl⟩))
    try (go_region_with (first | (go_at_call 71; refine (rankOf_any _ _ _).mono ?_; rintro e w' ⟨rfl, rfl⟩) | (go_at_call 70; refine (cmpInt_any _ _ _).mono ?_; rintro e w' ⟨rfl, rfl⟩)))
    all_goals (try go_wp2)
    all_goals
      go_ret2
      refine ⟨by rw [unhide HV]; rfl, ?_⟩
      (repeat first | exact Below.refl _ _ | assumption | refine Below.drew ?_ | refine Below.alloc ?_ (by simp <;> omega) _ | refine Below.setCell ?_ (by simp <;> omega) _)
set_option maxHeartbeats 1000000 in
theorem lessN_any (k v l u : Int) (w : World) :
    Calls Tryz.prog 33 #[.agg #[.int .i64 k, .int .i64 v], .agg #[.int .i64 l, .int .i64 u]] w fun e w' => e = .returned (.bool (lessB k v l u)) ∧ Below w.heap.size w w' := by
  have hc : ∀ b, (k == 1) = b → ∀ c, (l == 1) = c → lessB k v l u = if b || c then b && !c else decide (cmpV k v l u < 0) := by
    rintro _ rfl _ rfl; rfl
  have HC := hide hc
  clear hc
  cases hk : (k == 1) <;> cases hl : (l == 1)
  case false.false =>
    have hcv := unhide HC _ hk _ hl
    simp only [Bool.or_false, Bool.false_eq_true, if_false] at hcv
    have HV := hide hcv
    have HCM := hide (fun w => compareN_any k v l u w hk hl)
    clear hcv
    go_enter Tryz.func33, Tryz.ntmps33
    go_wp2_with (first | (go_at_call 51; refine (isNaN_any _ _ _).mono ?_; rintro e w' ⟨rfl, rfl⟩) | (go_at_call 69; refine (isInfinite_any _ _ _).mono ?_; rintro e w' ⟨rfl, rfl⟩) | (go_at_call 52; refine (unhide HCM _).mono ?_; rintro e w' ⟨rfl, hb⟩))
    all_goals
      go_ret
      refine ⟨ret_bool (by rw [unhide HV]), ?_⟩
      refine Below.then ?_ hb
      (repeat first | exact Below.refl _ _ | assumption | refine Below.drew ?_ | refine Below.alloc ?_ (by simp <;> omega) _ | refine Below.setCell ?_ (by simp <;> omega) _)
  all_goals
    have hcv := (unhide HC _ hk _ hl).trans (if_pos rfl)
    have HV := hide hcv
    clear hcv
    go_enter Tryz.func33, Tryz.ntmps33
    go_wp2_with (first | (go_at_call 51; refine (isNaN_any _ _ _).mono ?_; rintro e w' ⟨rfl, rfl⟩) | (go_at_call 69; refine (isInfinite_any _ _ _).mono ?_; rintro e w' ⟨rfl, rfl⟩))
    all_goals
      go_ret
      refine ⟨ret_bool (by rw [unhide HV]; rfl), ?_⟩
      (repeat first | exact Below.refl _ _ | assumption | refine Below.drew ?_ | refine Below.alloc ?_ (by simp <;> omega) _ | refine Below.setCell ?_ (by simp <;> omega) _)
end Go.Proofs.YtoeahagloobmoaaGreatDoor
