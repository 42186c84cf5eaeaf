/- Sums and products of every kind of number, in both orders: xnum's Add and Mul. -/
import Derived.Test.YtmaefnmjfkbplaaGreatDoorNumQuot
import Derived.Test.YtmaefnmjfkbplaaGreatDoorNumAdd
import Derived.Test.YtmaefnmjfkbplaaGreatDoorNumRight
namespace Go.Proofs.YtmaefnmjfkbplaaGreatDoor
open Go.RowKit
attribute [local go_sem ↓] Go.wp_at_zero Go.wp_at_succ
set_option maxRecDepth 100000 in
set_option maxHeartbeats 1000000 in
theorem add_not (k v l u K : Int) (w : World) (h : ((k == 1) = true ∧ K = 1) ∨ ((k == 1) = false ∧ (l == 1) = true ∧ K = 1) ∨ ((k == 1) = false ∧ (l == 1) = false ∧ infB k = true ∧ infB l = true ∧ (k != l) = true ∧ K = 1) ∨ ((k == 1) = false ∧ (l == 1) = false ∧ infB k = true ∧ infB l = true ∧ (k != l) = false ∧ K = infK (belowB k v)) ∨ ((k == 1) = false ∧ (l == 1) = false ∧ infB k = true ∧ infB l = false ∧ K = infK (belowB k v)) ∨ ((k == 1) = false ∧ (l == 1) = false ∧ infB k = false ∧ infB l = true ∧ K = infK (belowB l u))) :
    Calls Tryz.prog 6 #[.agg #[.int .i64 k, .int .i64 v], .agg #[.int .i64 l, .int .i64 u]] w fun e w' => e = .returned (.agg #[.int .i64 K, .int .i64 0]) ∧ Below w.heap.size w w' := by
  rcases h with ⟨h1, hK⟩ | ⟨h1, h2, hK⟩ | ⟨h1, h2, h3, h4, h5, hK⟩ | ⟨h1, h2, h3, h4, h5, hK⟩ | ⟨h1, h2, h3, h4, hK⟩ | ⟨h1, h2, h3, h4, hK⟩
  all_goals
    go_enter Tryz.func6, Tryz.ntmps6
    go_wp2_with (first | (go_at_call 26; refine (isNaN_any _ _ _).mono ?_; rintro e w' ⟨rfl, rfl⟩) | (go_at_call 28; refine (isInfinite_any _ _ _).mono ?_; rintro e w' ⟨rfl, rfl⟩) | (go_at_call 33; refine (isZero_any _ _ _).mono ?_; rintro e w' ⟨rfl, rfl⟩) | (go_at_call 30; refine (isBelow_any _ _ _).mono ?_; rintro e w' ⟨rfl, rfl⟩) | (go_at_call 27; refine (notANumber_any _).mono ?_; rintro e w' ⟨rfl, rfl⟩) | (go_at_call 29; refine (infinite_any _ _).mono ?_; rintro e w' ⟨rfl, rfl⟩))
    refine bodyPost_ret (v := .agg #[.int .i64 K, .int .i64 0]) (by simp [results, Tryz.results6, go_sem, hK]) rfl ⟨rfl, ?_⟩
    (repeat first | exact Below.refl _ _ | assumption | refine Below.drew ?_ | refine Below.alloc ?_ (by simp <;> omega) _ | refine Below.setCell ?_ (by simp <;> omega) _)
set_option maxRecDepth 100000 in
set_option maxHeartbeats 1000000 in
theorem mul_ways (k v l u K : Int) (w : World) (h : ((k == 1) = true ∧ K = 1) ∨ ((k == 1) = false ∧ (l == 1) = true ∧ K = 1) ∨ ((k == 1) = false ∧ (l == 1) = false ∧ infB k = true ∧ zeroB l u = true ∧ K = 1) ∨ ((k == 1) = false ∧ (l == 1) = false ∧ infB k = true ∧ zeroB l u = false ∧ zeroB k v = false ∧ K = infK (belowB k v != belowB l u)) ∨ ((k == 1) = false ∧ (l == 1) = false ∧ infB k = false ∧ zeroB k v = true ∧ infB l = true ∧ K = 1) ∨ ((k == 1) = false ∧ (l == 1) = false ∧ infB k = false ∧ zeroB k v = false ∧ infB l = true ∧ K = infK (belowB k v != belowB l u))) :
    Calls Tryz.prog 8 #[.agg #[.int .i64 k, .int .i64 v], .agg #[.int .i64 l, .int .i64 u]] w fun e w' => e = .returned (.agg #[.int .i64 K, .int .i64 0]) ∧ Below w.heap.size w w' := by
  go_enter Tryz.func8, Tryz.ntmps8
  go_wp2_with fail
  go_cut [5] (fun s5 wx => s5 = .bool (belowB k v != belowB l u) ∧ Below (((w.alloc (.cells #[.int .i64 k, .int .i64 v] 24)).alloc (.cells #[.int .i64 l, .int .i64 u] 24)).alloc (.cells #[.int .i64 0, .int .i64 0] 24)).heap.size (((w.alloc (.cells #[.int .i64 k, .int .i64 v] 24)).alloc (.cells #[.int .i64 l, .int .i64 u] 24)).alloc (.cells #[.int .i64 0, .int .i64 0] 24)) wx)
  case first =>
    go_region_with (go_at_call 30; refine (isBelow_any _ _ _).mono ?_; rintro e w' ⟨rfl, rfl⟩)
    all_goals (try go_wp2_with fail)
    all_goals go_meet
    all_goals
      refine ⟨rfl, ?_⟩
      (repeat first | exact Below.refl _ _ | assumption | refine Below.drew ?_ | refine Below.alloc ?_ (by simp <;> omega) _ | refine Below.setCell ?_ (by simp <;> omega) _)
  case rest =>
    obtain ⟨rfl, hbx⟩ := hcut
    have hNa : NumAt wc (w.heap.size) k v := NumAt.below (w := (((w.alloc (.cells #[.int .i64 k, .int .i64 v] 24)).alloc (.cells #[.int .i64 l, .int .i64 u] 24)).alloc (.cells #[.int .i64 0, .int .i64 0] 24))) ⟨by simp [go_sem], by simp [go_sem], by simp [go_sem], by simp [go_sem]⟩ hbx
    have hNb : NumAt wc (w.heap.size + 1) l u := NumAt.below (w := (((w.alloc (.cells #[.int .i64 k, .int .i64 v] 24)).alloc (.cells #[.int .i64 l, .int .i64 u] 24)).alloc (.cells #[.int .i64 0, .int .i64 0] 24))) ⟨by simp [go_sem], by simp [go_sem], by simp [go_sem], by simp [go_sem]⟩ hbx
    have hNr : NumAt wc (w.heap.size + 1 + 1) 0 0 := NumAt.below (w := (((w.alloc (.cells #[.int .i64 k, .int .i64 v] 24)).alloc (.cells #[.int .i64 l, .int .i64 u] 24)).alloc (.cells #[.int .i64 0, .int .i64 0] 24))) ⟨by simp [go_sem], by simp [go_sem], by simp [go_sem], by simp [go_sem]⟩ hbx
    have hBc : Below w.heap.size w wc := Below.then (show Below w.heap.size w (((w.alloc (.cells #[.int .i64 k, .int .i64 v] 24)).alloc (.cells #[.int .i64 l, .int .i64 u] 24)).alloc (.cells #[.int .i64 0, .int .i64 0] 24)) by
      (repeat first | exact Below.refl _ _ | assumption | refine Below.drew ?_ | refine Below.alloc ?_ (by simp <;> omega) _ | refine Below.setCell ?_ (by simp <;> omega) _)) hbx
    have n2 : w.heap.size + 1 + 1 < wc.heap.size := block_lt_of_cell hNr.kind
    have n0 : w.heap.size < wc.heap.size := by omega
    have n1 : w.heap.size + 1 < wc.heap.size := by omega
    have n01 : w.heap.size < wc.heap.size + 1 := by omega
    have n02 : w.heap.size < wc.heap.size + 1 + 1 := by omega
    have n03 : w.heap.size < wc.heap.size + 1 + 1 + 1 := by omega
    have n04 : w.heap.size < wc.heap.size + 1 + 1 + 1 + 1 := by omega
    have n05 : w.heap.size < wc.heap.size + 1 + 1 + 1 + 1 + 1 := by omega
    have n06 : w.heap.size < wc.heap.size + 1 + 1 + 1 + 1 + 1 + 1 := by omega
    have n07 : w.heap.size < wc.heap.size + 1 + 1 + 1 + 1 + 1 + 1 + 1 := by omega
    have n08 : w.heap.size < wc.heap.size + 1 + 1 + 1 + 1 + 1 + 1 + 1 + 1 := by omega
    have n09 : w.heap.size < wc.heap.size + 1 + 1 + 1 + 1 + 1 + 1 + 1 + 1 + 1 := by omega
    have n11 : w.heap.size + 1 < wc.heap.size + 1 := by omega
    have n12 : w.heap.size + 1 < wc.heap.size + 1 + 1 := by omega
    have n13 : w.heap.size + 1 < wc.heap.size + 1 + 1 + 1 := by omega
    have n14 : w.heap.size + 1 < wc.heap.size + 1 + 1 + 1 + 1 := by omega
    have n15 : w.heap.size + 1 < wc.heap.size + 1 + 1 + 1 + 1 + 1 := by omega
    have n16 : w.heap.size + 1 < wc.heap.size + 1 + 1 + 1 + 1 + 1 + 1 := by omega
    have n17 : w.heap.size + 1 < wc.heap.size + 1 + 1 + 1 + 1 + 1 + 1 + 1 := by omega
    have n18 : w.heap.size + 1 < wc.heap.size + 1 + 1 + 1 + 1 + 1 + 1 + 1 + 1 := by omega
    have n19 : w.heap.size + 1 < wc.heap.size + 1 + 1 + 1 + 1 + 1 + 1 + 1 + 1 + 1 := by omega
    obtain ⟨a0, a1, a2, a3⟩ := hNa
    obtain ⟨b0, b1, b2, b3⟩ := hNb
    obtain ⟨r0, r1, r2, r3⟩ := hNr
    clear hbx
    generalize (belowB k v != belowB l u) = bb at *
    rcases h with ⟨h1, hK⟩ | ⟨h1, h2, hK⟩ | ⟨h1, h2, h3, h4, hK⟩ | ⟨h1, h2, h3, h4, h5, hK⟩ | ⟨h1, h2, h3, h4, h5, hK⟩ | ⟨h1, h2, h3, h4, h5, hK⟩
    all_goals
      go_wp2_with (first | (go_at_call 26; refine (isNaN_any _ _ _).mono ?_; rintro e w' ⟨rfl, rfl⟩) | (go_at_call 28; refine (isInfinite_any _ _ _).mono ?_; rintro e w' ⟨rfl, rfl⟩) | (go_at_call 33; refine (isZero_any _ _ _).mono ?_; rintro e w' ⟨rfl, rfl⟩) | (go_at_call 30; refine (isBelow_any _ _ _).mono ?_; rintro e w' ⟨rfl, rfl⟩) | (go_at_call 27; refine (notANumber_any _).mono ?_; rintro e w' ⟨rfl, rfl⟩) | (go_at_call 29; refine (infinite_any _ _).mono ?_; rintro e w' ⟨rfl, rfl⟩))
      refine bodyPost_ret (v := .agg #[.int .i64 K, .int .i64 0]) (by simp [results, Tryz.results8, go_sem, *]) rfl ⟨rfl, ?_⟩
      (repeat first | assumption | refine Below.drew ?_ | refine Below.setCell ?_ (by first | omega | (simp; omega) | (simp; done)) _ | refine Below.alloc ?_ (by first | omega | (simp; omega) | (simp; done)) _ | exact Below.refl _ _)
def mulK (k v l u : Int) : Int := if (k == 1 || l == 1) then 1 else if (infB k && zeroB l u || zeroB k v && infB l) then 1 else infK (belowB k v != belowB l u)
theorem mulK_comm (k v l u : Int) : mulK k v l u = mulK l u k v := by
  unfold mulK
  generalize (k == 1) = a
  generalize (l == 1) = b
  generalize infB k = c
  generalize infB l = d
  generalize zeroB k v = e
  generalize zeroB l u = f
  generalize belowB k v = g
  generalize belowB l u = i
  cases a <;> cases b <;> cases c <;> cases d <;> cases e <;> cases f <;> cases g <;> cases i <;> rfl
theorem mul_rest (k v l u : Int) (w : World) (h : (k == 1 || l == 1 || infB k || infB l) = true) (hz : infB k = true → zeroB k v = false) :
    Calls Tryz.prog 8 #[.agg #[.int .i64 k, .int .i64 v], .agg #[.int .i64 l, .int .i64 u]] w fun e w' => e = .returned (.agg #[.int .i64 (mulK k v l u), .int .i64 0]) ∧ Below w.heap.size w w' := by
  refine mul_ways k v l u _ w ?_
  unfold mulK
  cases h1 : (k == 1) <;> cases h2 : (l == 1) <;> cases h3 : infB k <;> cases h4 : infB l <;> cases h5 : zeroB k v <;> cases h6 : zeroB l u
  all_goals simp_all
/-- Sums do not hang on the order. -/
theorem add_both (k v l u : Int) (hk : rightB k v = true) (hl : rightB l u = true) :
    ∃ K U : Int, (∀ w, Calls Tryz.prog 6 #[.agg #[.int .i64 k, .int .i64 v], .agg #[.int .i64 l, .int .i64 u]] w fun e w' => e = .returned (.agg #[.int .i64 K, .int .i64 U]) ∧ Below w.heap.size w w') ∧ (∀ w, Calls Tryz.prog 6 #[.agg #[.int .i64 l, .int .i64 u], .agg #[.int .i64 k, .int .i64 v]] w fun e w' => e = .returned (.agg #[.int .i64 K, .int .i64 U]) ∧ Below w.heap.size w w') ∧ (k = 0 → l = 0 → K = signK (decide (v + u < 0)) (v + u).natAbs ∧ U = signN (decide (v + u < 0)) (v + u).natAbs) := by
  rcases right_cases hk with ⟨rfl, g1, g2⟩ | ⟨rfl, rfl⟩ | ⟨rfl, rfl⟩ | ⟨rfl, rfl⟩ <;> rcases right_cases hl with ⟨rfl, g3, g4⟩ | ⟨rfl, rfl⟩ | ⟨rfl, rfl⟩ | ⟨rfl, rfl⟩
  · refine ⟨_, _, fun w => add_fin v u w (by omega) (by omega), fun w => ?_, fun _ _ => ⟨rfl, rfl⟩⟩
    have := add_fin u v w (by omega) (by omega)
    rw [Int.add_comm u v] at this
    exact this
  all_goals first
    | (refine ⟨1, 0, fun w => add_not _ _ _ _ 1 w ?_, fun w => add_not _ _ _ _ 1 w ?_, fun a b => ?_⟩
       · (simp [infB, infK, belowB]; done)
       · (simp [infB, infK, belowB]; done)
       · omega)
    | (refine ⟨2, 0, fun w => add_not _ _ _ _ 2 w ?_, fun w => add_not _ _ _ _ 2 w ?_, fun a b => ?_⟩
       · (simp [infB, infK, belowB]; done)
       · (simp [infB, infK, belowB]; done)
       · omega)
    | (refine ⟨3, 0, fun w => add_not _ _ _ _ 3 w ?_, fun w => add_not _ _ _ _ 3 w ?_, fun a b => ?_⟩
       · (simp [infB, infK, belowB]; done)
       · (simp [infB, infK, belowB]; done)
       · omega)
/-- Products do not hang on the order. -/
theorem mul_both (k v l u : Int) (hk : rightB k v = true) (hl : rightB l u = true) :
    ∃ K U : Int, (∀ w, Calls Tryz.prog 8 #[.agg #[.int .i64 k, .int .i64 v], .agg #[.int .i64 l, .int .i64 u]] w fun e w' => e = .returned (.agg #[.int .i64 K, .int .i64 U]) ∧ Below w.heap.size w w') ∧ (∀ w, Calls Tryz.prog 8 #[.agg #[.int .i64 l, .int .i64 u], .agg #[.int .i64 k, .int .i64 v]] w fun e w' => e = .returned (.agg #[.int .i64 K, .int .i64 U]) ∧ Below w.heap.size w w') := by
  cases h : (k == 1 || l == 1 || infB k || infB l)
  · rcases right_cases hk with ⟨rfl, g1, g2⟩ | ⟨rfl, rfl⟩ | ⟨rfl, rfl⟩ | ⟨rfl, rfl⟩ <;> rcases right_cases hl with ⟨rfl, g3, g4⟩ | ⟨rfl, rfl⟩ | ⟨rfl, rfl⟩ | ⟨rfl, rfl⟩
    · refine ⟨_, _, fun w => mul_fin v u w g1 g2 g3 g4, fun w => ?_⟩
      have := mul_fin u v w g3 g4 g1 g2
      rw [mulN_comm u v, bne_comm (a := belowB 0 u)] at this
      exact this
    all_goals simp [infB] at h
  · have e1 : infB k = true → zeroB k v = false := by
      intro hi
      rcases right_cases hk with ⟨rfl, g1, g2⟩ | ⟨rfl, rfl⟩ | ⟨rfl, rfl⟩ | ⟨rfl, rfl⟩
      · cases hi
      all_goals rfl
    have e2 : infB l = true → zeroB l u = false := by
      intro hi
      rcases right_cases hl with ⟨rfl, g1, g2⟩ | ⟨rfl, rfl⟩ | ⟨rfl, rfl⟩ | ⟨rfl, rfl⟩
      · cases hi
      all_goals rfl
    have h' : (l == 1 || k == 1 || infB l || infB k) = true := by
      revert h
      cases (k == 1) <;> cases (l == 1) <;> cases infB k <;> cases infB l <;> simp
    refine ⟨mulK k v l u, 0, fun w => mul_rest k v l u w h e1, fun w => ?_⟩
    rw [mulK_comm k v l u]
    exact mul_rest l u k v w h' e2
end Go.Proofs.YtmaefnmjfkbplaaGreatDoor
