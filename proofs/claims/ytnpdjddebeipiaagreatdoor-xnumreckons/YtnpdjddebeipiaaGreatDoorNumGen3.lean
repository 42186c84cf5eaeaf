/- Quotients and rests that are not finite: xnum's Div, Mod. -/
import Derived.Test.YtnpdjddebeipiaaGreatDoorNumMul
namespace Go.Proofs.YtnpdjddebeipiaaGreatDoor
open Go.RowKit
attribute [local go_sem ↓] Go.wp_at_zero Go.wp_at_succ
set_option maxRecDepth 100000 in
set_option maxHeartbeats 8000000 in
theorem div_ways (k v l u K : Int) (w : World) (h : ((k == 1) = true ∧ K = 1) ∨ ((k == 1) = false ∧ (l == 1) = true ∧ K = 1) ∨ ((k == 1) = false ∧ (l == 1) = false ∧ infB k = true ∧ infB l = true ∧ K = 1) ∨ ((k == 1) = false ∧ (l == 1) = false ∧ infB k = false ∧ zeroB k v = true ∧ zeroB l u = true ∧ K = 1) ∨ ((k == 1) = false ∧ (l == 1) = false ∧ infB k = true ∧ infB l = false ∧ zeroB k v = false ∧ K = infK (belowB k v != belowB l u)) ∨ ((k == 1) = false ∧ (l == 1) = false ∧ infB k = false ∧ zeroB k v = false ∧ zeroB l u = true ∧ K = infK (belowB k v != belowB l u)) ∨ ((k == 1) = false ∧ (l == 1) = false ∧ infB k = false ∧ zeroB k v = true ∧ zeroB l u = false ∧ infB l = true ∧ K = 0) ∨ ((k == 1) = false ∧ (l == 1) = false ∧ infB k = false ∧ zeroB k v = false ∧ zeroB l u = false ∧ infB l = true ∧ K = 0)) :
    Calls Tryz.prog 7 #[.agg #[.int .i64 k, .int .i64 v], .agg #[.int .i64 l, .int .i64 u]] w fun e w' => e = .returned (.agg #[.int .i64 K, .int .i64 0]) ∧ Below w.heap.size w w' := by
  go_enter Tryz.func7, Tryz.ntmps7
  go_wp2_with fail
  go_cut [5] (fun s5 wx => s5 = .bool (belowB k v != belowB l u) ∧ Below (((w.alloc (.cells #[.int .i64 k, .int .i64 v] 24)).alloc (.cells #[.int .i64 l, .int .i64 u] 24)).alloc (.cells #[.int .i64 0, .int .i64 0] 24)).heap.size (((w.alloc (.cells #[.int .i64 k, .int .i64 v] 24)).alloc (.cells #[.int .i64 l, .int .i64 u] 24)).alloc (.cells #[.int .i64 0, .int .i64 0] 24)) wx)
  case first =>
    go_region_with (go_at_call 22; refine (isBelow_any _ _ _).mono ?_; rintro e w' ⟨rfl, rfl⟩)
    all_goals (try go_wp2_with fail)
    all_goals go_meet
    all_goals
      refine ⟨rfl, ?_⟩
      (repeat first | exact Below.refl _ _ | assumption | refine Below.drew ?_ | refine Below.alloc ?_ (by simp <;> omega) _ | refine Below.setCell ?_ (by simp <;> omega) _)
  case rest =>
    obtain ⟨rfl, hbx⟩ := hcut
    have hNa : NumAt wc (w.heap.size) k v := NumAt.below (w := (((w.alloc (.cells #[.int .i64 k, .int .i64 v] 24)).alloc (.cells #[.int .i64 l, .int .i64 u] 24)).alloc (.cells #[.int .i64 0, .int .i64 0] 24))) ⟨by simp [go_sem], by simp [go_sem], by simp [go_sem], by simp [go_sem]⟩ hbx
    have hNb : NumAt wc (w.heap.size + 1) l u := NumAt.below (w := (((w.alloc (.cells #[.int .i64 k, .int .i64 v] 24)).alloc (.cells #[.int .i64 l, .int .i64 u] 24)).alloc (.cells #[.int .i64 0, .int .i64 0] 24))) ⟨by simp [go_sem], by simp [go_sem], by simp [go_sem], by simp [go_sem]⟩ hbx
    have hNr : NumAt wc (w.heap.size + 1 + 1) 0 0 := NumAt.below (w := (((w.alloc (.cells #[.int .i64 k, .int .i64 v] 24)).alloc (.cells #[.int .i64 l, .int .i64 u] 24)).alloc (.cells #[.int .i64 0, .int .i64 0] 24))) ⟨by simp [go_sem], by simp [go_sem], by simp [go_sem], by simp [go_sem]⟩ hbx
    have hBc : Below w.heap.size w wc := Below.then (show Below w.heap.size w (((w.alloc (.cells #[.int .i64 k, .int .i64 v] 24)).alloc (.cells #[.int .i64 l, .int .i64 u] 24)).alloc (.cells #[.int .i64 0, .int .i64 0] 24)) by
      (repeat first | exact Below.refl _ _ | assumption | refine Below.drew ?_ | refine Below.alloc ?_ (by simp <;> omega) _ | refine Below.setCell ?_ (by simp <;> omega) _)) hbx
    have n2 : w.heap.size + 1 + 1 < wc.heap.size := block_lt_of_cell hNr.kind
    have n0 : w.heap.size < wc.heap.size := by omega
    have n1 : w.heap.size + 1 < wc.heap.size := by omega
    have n01 : w.heap.size < wc.heap.size + 1 := by omega
    have n02 : w.heap.size < wc.heap.size + 1 + 1 := by omega
    have n03 : w.heap.size < wc.heap.size + 1 + 1 + 1 := by omega
    have n04 : w.heap.size < wc.heap.size + 1 + 1 + 1 + 1 := by omega
    have n05 : w.heap.size < wc.heap.size + 1 + 1 + 1 + 1 + 1 := by omega
    have n06 : w.heap.size < wc.heap.size + 1 + 1 + 1 + 1 + 1 + 1 := by omega
    have n07 : w.heap.size < wc.heap.size + 1 + 1 + 1 + 1 + 1 + 1 + 1 := by omega
    have n08 : w.heap.size < wc.heap.size + 1 + 1 + 1 + 1 + 1 + 1 + 1 + 1 := by omega
    have n09 : w.heap.size < wc.heap.size + 1 + 1 + 1 + 1 + 1 + 1 + 1 + 1 + 1 := by omega
    have n11 : w.heap.size + 1 < wc.heap.size + 1 := by omega
    have n12 : w.heap.size + 1 < wc.heap.size + 1 + 1 := by omega
    have n13 : w.heap.size + 1 < wc.heap.size + 1 + 1 + 1 := by omega
    have n14 : w.heap.size + 1 < wc.heap.size + 1 + 1 + 1 + 1 := by omega
    have n15 : w.heap.size + 1 < wc.heap.size + 1 + 1 + 1 + 1 + 1 := by omega
    have n16 : w.heap.size + 1 < wc.heap.size + 1 + 1 + 1 + 1 + 1 + 1 := by omega
    have n17 : w.heap.size + 1 < wc.heap.size + 1 + 1 + 1 + 1 + 1 + 1 + 1 := by omega
    have n18 : w.heap.size + 1 < wc.heap.size + 1 + 1 + 1 + 1 + 1 + 1 + 1 + 1 := by omega
    have n19 : w.heap.size + 1 < wc.heap.size + 1 + 1 + 1 + 1 + 1 + 1 + 1 + 1 + 1 := by omega
    obtain ⟨a0, a1, a2, a3⟩ := hNa
    obtain ⟨b0, b1, b2, b3⟩ := hNb
    obtain ⟨r0, r1, r2, r3⟩ := hNr
    clear hbx
    generalize (belowB k v != belowB l u) = bb at *
    rcases h with ⟨h1, hK⟩ | ⟨h1, h2, hK⟩ | ⟨h1, h2, h3, h4, hK⟩ | ⟨h1, h2, h3, h4, h5, hK⟩ | ⟨h1, h2, h3, h4, h5, hK⟩ | ⟨h1, h2, h3, h4, h5, hK⟩ | ⟨h1, h2, h3, h4, h5, h6, hK⟩ | ⟨h1, h2, h3, h4, h5, h6, hK⟩
    all_goals
      go_wp2_with (first | (go_at_call 18; refine (isNaN_any _ _ _).mono ?_; rintro e w' ⟨rfl, rfl⟩) | (go_at_call 20; refine (isInfinite_any _ _ _).mono ?_; rintro e w' ⟨rfl, rfl⟩) | (go_at_call 25; refine (isZero_any _ _ _).mono ?_; rintro e w' ⟨rfl, rfl⟩) | (go_at_call 22; refine (isBelow_any _ _ _).mono ?_; rintro e w' ⟨rfl, rfl⟩) | (go_at_call 19; refine (notANumber_any _).mono ?_; rintro e w' ⟨rfl, rfl⟩) | (go_at_call 21; refine (infinite_any _ _).mono ?_; rintro e w' ⟨rfl, rfl⟩))
      refine bodyPost_ret (v := .agg #[.int .i64 K, .int .i64 0]) (by simp [results, Tryz.results7, go_sem, *]) rfl ⟨rfl, ?_⟩
      (repeat first | assumption | refine Below.drew ?_ | refine Below.setCell ?_ (by first | omega | (simp; omega) | (simp; done)) _ | refine Below.alloc ?_ (by first | omega | (simp; omega) | (simp; done)) _ | exact Below.refl _ _)
def divK (k v l u : Int) : Int := if (k == 1 || l == 1) then 1 else if (infB k && infB l || zeroB k v && zeroB l u) then 1 else if (infB k || zeroB l u) then infK (belowB k v != belowB l u) else 0
theorem inf_zero {k v : Int} (h : infB k = true) : zeroB k v = false := by
  unfold infB at h
  unfold zeroB
  by_cases h0 : k = 0
  · subst h0; simp at h
  · simp [h0]
theorem div_rest (k v l u : Int) (w : World) (h : (k == 1 || l == 1 || infB k || infB l || zeroB l u) = true) :
    Calls Tryz.prog 7 #[.agg #[.int .i64 k, .int .i64 v], .agg #[.int .i64 l, .int .i64 u]] w fun e w' => e = .returned (.agg #[.int .i64 (divK k v l u), .int .i64 0]) ∧ Below w.heap.size w w' := by
  refine div_ways k v l u _ w ?_
  unfold divK
  have hzk := inf_zero (k := k) (v := v)
  generalize infK (belowB k v != belowB l u) = I at *
  cases hk1 : (k == 1)
  · cases hl1 : (l == 1)
    · rw [hk1, hl1] at h
      cases hik : infB k
      · cases hzk' : zeroB k v <;> cases hzl : zeroB l u <;> cases hil : infB l <;> simp_all
      · have := hzk hik
        cases hil : infB l <;> simp_all
    · simp
  · simp
set_option maxRecDepth 100000 in
set_option maxHeartbeats 1000000 in
theorem mod_ways (k v l u K U : Int) (w : World) (h : ((k == 1) = true ∧ K = 1 ∧ U = 0) ∨ ((k == 1) = false ∧ (l == 1) = true ∧ K = 1 ∧ U = 0) ∨ ((k == 1) = false ∧ (l == 1) = false ∧ infB k = true ∧ K = 1 ∧ U = 0) ∨ ((k == 1) = false ∧ (l == 1) = false ∧ infB k = false ∧ zeroB l u = true ∧ K = 1 ∧ U = 0) ∨ ((k == 1) = false ∧ (l == 1) = false ∧ infB k = false ∧ zeroB l u = false ∧ infB l = true ∧ K = k ∧ U = v)) :
    Calls Tryz.prog 8 #[.agg #[.int .i64 k, .int .i64 v], .agg #[.int .i64 l, .int .i64 u]] w fun e w' => e = .returned (.agg #[.int .i64 K, .int .i64 U]) ∧ Below w.heap.size w w' := by
  rcases h with ⟨h1, hK, hU⟩ | ⟨h1, h2, hK, hU⟩ | ⟨h1, h2, h3, hK, hU⟩ | ⟨h1, h2, h3, h4, hK, hU⟩ | ⟨h1, h2, h3, h4, h5, hK, hU⟩
  all_goals
    go_enter Tryz.func8, Tryz.ntmps8
    go_wp2_with (first | (go_at_call 18; refine (isNaN_any _ _ _).mono ?_; rintro e w' ⟨rfl, rfl⟩) | (go_at_call 20; refine (isInfinite_any _ _ _).mono ?_; rintro e w' ⟨rfl, rfl⟩) | (go_at_call 25; refine (isZero_any _ _ _).mono ?_; rintro e w' ⟨rfl, rfl⟩) | (go_at_call 22; refine (isBelow_any _ _ _).mono ?_; rintro e w' ⟨rfl, rfl⟩) | (go_at_call 19; refine (notANumber_any _).mono ?_; rintro e w' ⟨rfl, rfl⟩) | (go_at_call 21; refine (infinite_any _ _).mono ?_; rintro e w' ⟨rfl, rfl⟩))
    refine bodyPost_ret (v := .agg #[.int .i64 K, .int .i64 U]) (by simp [results, Tryz.results8, go_sem, hK, hU]) rfl ⟨rfl, ?_⟩
    (repeat first | exact Below.refl _ _ | assumption | refine Below.drew ?_ | refine Below.alloc ?_ (by simp <;> omega) _ | refine Below.setCell ?_ (by simp <;> omega) _)
def modK (k l u : Int) : Int := if (k == 1 || l == 1 || infB k || zeroB l u) then 1 else k
def modU (k v l u : Int) : Int := if (k == 1 || l == 1 || infB k || zeroB l u) then 0 else v
theorem mod_rest (k v l u : Int) (w : World) (h : (k == 1 || l == 1 || infB k || infB l || zeroB l u) = true) :
    Calls Tryz.prog 8 #[.agg #[.int .i64 k, .int .i64 v], .agg #[.int .i64 l, .int .i64 u]] w fun e w' => e = .returned (.agg #[.int .i64 (modK k l u), .int .i64 (modU k v l u)]) ∧ Below w.heap.size w w' := by
  refine mod_ways k v l u _ _ w ?_
  unfold modK modU
  cases hk1 : (k == 1)
  · cases hl1 : (l == 1)
    · rw [hk1, hl1] at h
      cases hik : infB k
      · cases hzl : zeroB l u <;> cases hil : infB l <;> simp_all
      · simp
    · simp
  · simp
end Go.Proofs.YtnpdjddebeipiaaGreatDoor
