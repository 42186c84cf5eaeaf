/- The reference's whole numbers around one: stencilref02's Fin, Inf, Nan, Neg, Floor, Ceiling, Round and Int; xnum's Right. -/
import Derived.Test.YtigbaoadnonjfaaGreatDoorNumNeg
import Derived.Test.YtigbaoadnonjfaaGreatDoorNumKey
import Derived.Test.YtigbaoadnonjfaaGreatDoorNumMath
namespace Go.Proofs.YtigbaoadnonjfaaGreatDoor
open Go.RowKit
set_option maxHeartbeats 1000000 in
theorem fin_ex (v : Int) (w : World) :
    Calls Tryz.prog 36 #[.int .i64 v] w fun e w' => e = .returned (.agg #[.int .i64 0, .int .i64 v]) ∧ w' = w.alloc (.cells #[.int .i64 0, .int .i64 v] 24) := by
  go_enter Tryz.func36, Tryz.ntmps36
  go_wp2
  refine bodyPost_ret (v := .agg #[.int .i64 0, .int .i64 v]) (by simp [results, Tryz.results36, go_sem]) rfl ?_
  exact ⟨rfl, rfl⟩
set_option maxHeartbeats 1000000 in
theorem nan_ex (w : World) :
    Calls Tryz.prog 54 #[] w fun e w' => e = .returned (.agg #[.int .i64 1, .int .i64 0]) ∧ w' = w.alloc (.cells #[.int .i64 1, .int .i64 0] 24) := by
  go_enter Tryz.func54, Tryz.ntmps54
  go_wp2
  refine bodyPost_ret (v := .agg #[.int .i64 1, .int .i64 0]) (by simp [results, Tryz.results54, go_sem]) rfl ?_
  exact ⟨rfl, rfl⟩
set_option maxHeartbeats 1000000 in
theorem inf_ex (b : Bool) (w : World) :
    Calls Tryz.prog 39 #[.bool b] w fun e w' => e = .returned (.agg #[.int .i64 (infK b), .int .i64 0]) ∧ w' = w.alloc (.cells #[.int .i64 (infK b), .int .i64 0] 24) := by
  cases b
  · go_enter Tryz.func39, Tryz.ntmps39
    go_wp2
    refine bodyPost_ret (v := .agg #[.int .i64 2, .int .i64 0]) (by simp [results, Tryz.results39, go_sem]) rfl ?_
    exact ⟨rfl, rfl⟩
  · go_enter Tryz.func39, Tryz.ntmps39
    go_wp2
    refine bodyPost_ret (v := .agg #[.int .i64 3, .int .i64 0]) (by simp [results, Tryz.results39, go_sem]) rfl ?_
    exact ⟨rfl, rfl⟩
set_option maxHeartbeats 1000000 in
theorem refNeg_any (k v : Int) (w : World) :
    Calls Tryz.prog 37 #[.agg #[.int .i64 k, .int .i64 v]] w fun e w' => e = .returned (.agg #[.int .i64 (negK k), .int .i64 (negV k v)]) ∧ Below w.heap.size w w' := by
  unfold negK negV
  have i1 : infK true = 3 := rfl
  have i2 : infK false = 2 := rfl
  by_cases h1 : k = 1
  · subst h1
    simp only [if_pos]
    go_enter Tryz.func37, Tryz.ntmps37
    go_wp2_with (go_at_call 54; refine (nan_ex _).mono ?_; rintro e w' ⟨rfl, rfl⟩)
    refine bodyPost_ret (v := .agg #[.int .i64 1, .int .i64 0]) (by simp [results, Tryz.results37, go_sem]) rfl ?_
    refine ⟨rfl, ?_⟩
    (repeat first | exact Below.refl _ _ | assumption | refine Below.drew ?_ | refine Below.alloc ?_ (by simp <;> omega) _ | refine Below.setCell ?_ (by simp <;> omega) _)
  · have e1 : (k == 1) = false := by simpa using h1
    by_cases h2 : k = 2
    · subst h2
      simp only [if_neg h1, if_pos]
      go_enter Tryz.func37, Tryz.ntmps37
      go_wp2_with (go_at_call 39; refine (inf_ex _ _).mono ?_; rintro e w' ⟨rfl, rfl⟩)
      refine bodyPost_ret (v := .agg #[.int .i64 3, .int .i64 0]) (by simp [results, Tryz.results37, go_sem]) rfl ?_
      refine ⟨rfl, ?_⟩
      (repeat first | exact Below.refl _ _ | assumption | refine Below.drew ?_ | refine Below.alloc ?_ (by simp <;> omega) _ | refine Below.setCell ?_ (by simp <;> omega) _)
    · have e2 : (k == 2) = false := by simpa using h2
      by_cases h3 : k = 3
      · subst h3
        simp only [if_neg h1, if_neg h2, if_pos]
        go_enter Tryz.func37, Tryz.ntmps37
        go_wp2_with (go_at_call 39; refine (inf_ex _ _).mono ?_; rintro e w' ⟨rfl, rfl⟩)
        refine bodyPost_ret (v := .agg #[.int .i64 2, .int .i64 0]) (by simp [results, Tryz.results37, go_sem]) rfl ?_
        refine ⟨rfl, ?_⟩
        (repeat first | exact Below.refl _ _ | assumption | refine Below.drew ?_ | refine Below.alloc ?_ (by simp <;> omega) _ | refine Below.setCell ?_ (by simp <;> omega) _)
      · have e3 : (k == 3) = false := by simpa using h3
        simp only [if_neg h1, if_neg h2, if_neg h3]
        clear h1 h2 h3
        go_enter Tryz.func37, Tryz.ntmps37
        go_wp2_with (go_at_call 36; refine (fin_ex _ _).mono ?_; rintro e w' ⟨rfl, rfl⟩)
        refine bodyPost_ret (v := .agg #[.int .i64 0, .int .i64 (wrap64 (-v))]) (by simp [results, Tryz.results37, go_sem]) rfl ?_
        refine ⟨rfl, ?_⟩
        (repeat first | exact Below.refl _ _ | assumption | refine Below.drew ?_ | refine Below.alloc ?_ (by simp <;> omega) _ | refine Below.setCell ?_ (by simp <;> omega) _)
theorem tdiv_floor (v : Int) : (v.tdiv 1000000 * 1000000 ≤ v ∧ v.tdiv 1000000 * 1000000 = v - v % 1000000) ∨ (v < v.tdiv 1000000 * 1000000 ∧ v.tdiv 1000000 * 1000000 - 1000000 = v - v % 1000000) := by
  have h := Int.tmod_add_mul_tdiv v 1000000
  obtain ⟨t1, t2, t3, t4⟩ := tmod_emod v
  by_cases hn : v.tmod 1000000 < 0
  · have := t3 hn
    right
    omega
  · have := t4 (by omega)
    left
    omega
set_option maxHeartbeats 1000000 in
theorem refFloor_fin (v : Int) (w : World) (h1 : -2000000000000000000 ≤ v) (h2 : v ≤ 2000000000000000000) :
    Calls Tryz.prog 19 #[.agg #[.int .i64 0, .int .i64 v]] w fun e w' => e = .returned (.agg #[.int .i64 0, .int .i64 (v - v % 1000000)]) ∧ Below w.heap.size w w' := by
  have hq := tdiv_floor v
  have hm1 : 0 ≤ v % 1000000 := Int.emod_nonneg _ (by decide)
  have hm2 : v % 1000000 < 1000000 := Int.emod_lt_of_pos _ (by decide)
  generalize hd : v.tdiv 1000000 = d at *
  generalize v % 1000000 = m at *
  have hw1 : wrap64 d = d := by unfold wrap64; omega
  rcases hq with ⟨q1, q2⟩ | ⟨q1, q2⟩
  · have hnl : ¬ v < d * 1000000 := by omega
    go_enter Tryz.func19, Tryz.ntmps19
    go_wp2_with (go_at_call 36; refine (fin_ex _ _).mono ?_; rintro e w' ⟨rfl, rfl⟩)
    refine bodyPost_ret (v := .agg #[.int .i64 0, .int .i64 (v - m)]) (by simp [results, Tryz.results19, go_sem]) rfl ⟨rfl, ?_⟩
    (repeat first | exact Below.refl _ _ | assumption | refine Below.drew ?_ | refine Below.alloc ?_ (by simp <;> omega) _ | refine Below.setCell ?_ (by simp <;> omega) _)
  · go_enter Tryz.func19, Tryz.ntmps19
    go_wp2_with (go_at_call 36; refine (fin_ex _ _).mono ?_; rintro e w' ⟨rfl, rfl⟩)
    refine bodyPost_ret (v := .agg #[.int .i64 0, .int .i64 (v - m)]) (by simp [results, Tryz.results19, go_sem]) rfl ⟨rfl, ?_⟩
    (repeat first | exact Below.refl _ _ | assumption | refine Below.drew ?_ | refine Below.alloc ?_ (by simp <;> omega) _ | refine Below.setCell ?_ (by simp <;> omega) _)
set_option maxHeartbeats 1000000 in
theorem refFloorN (k v : Int) (w : World) (h : (k != 0) = true) :
    Calls Tryz.prog 19 #[.agg #[.int .i64 k, .int .i64 v]] w fun e w' => e = .returned (.agg #[.int .i64 k, .int .i64 v]) ∧ Below w.heap.size w w' := refFloor_not k v w (by simpa using h)
set_option maxHeartbeats 1000000 in
theorem refCeil_of (k v k1 v1 k2 v2 k3 v3 : Int) (w : World) (H1 : ∀ w, Calls Tryz.prog 37 #[.agg #[.int .i64 k, .int .i64 v]] w fun e w' => e = .returned (.agg #[.int .i64 k1, .int .i64 v1]) ∧ Below w.heap.size w w')
    (H2 : ∀ w, Calls Tryz.prog 19 #[.agg #[.int .i64 k1, .int .i64 v1]] w fun e w' => e = .returned (.agg #[.int .i64 k2, .int .i64 v2]) ∧ Below w.heap.size w w')
    (H3 : ∀ w, Calls Tryz.prog 37 #[.agg #[.int .i64 k2, .int .i64 v2]] w fun e w' => e = .returned (.agg #[.int .i64 k3, .int .i64 v3]) ∧ Below w.heap.size w w') :
    Calls Tryz.prog 20 #[.agg #[.int .i64 k, .int .i64 v]] w fun e w' => e = .returned (.agg #[.int .i64 k3, .int .i64 v3]) ∧ Below w.heap.size w w' := by
  have A1 := hide H1
  have A2 := hide H2
  have A3 := hide H3
  clear H1 H2 H3
  go_enter Tryz.func20, Tryz.ntmps20
  go_wp2_with fail
  refine (unhide A1 _).mono ?_
  rintro e w1 ⟨rfl, hb⟩
  have hr := NumAt.below (b := w.heap.size + 1) (k := 0) (v := 0) ⟨by simp [go_sem], by simp [go_sem], by simp [go_sem], by simp [go_sem]⟩ hb
  have hf1 : Below w.heap.size w w1 := Below.then (by (repeat first | exact Below.refl _ _ | assumption | refine Below.drew ?_ | refine Below.alloc ?_ (by simp <;> omega) _ | refine Below.setCell ?_ (by simp <;> omega) _)) hb
  go_wp2_with fail
  refine (unhide A2 _).mono ?_
  rintro e w2 ⟨rfl, hb2⟩
  go_wp2_with fail
  refine (unhide A3 _).mono ?_
  rintro e w3 ⟨rfl, hb3⟩
  obtain ⟨q0, q1, q2, q3⟩ := (hr.below hb2).below hb3
  have hfin : Below w.heap.size w w3 := Below.then hf1 (Below.then hb2 hb3)
  go_wp2
  refine bodyPost_ret (v := .agg #[.int .i64 k3, .int .i64 v3]) (by simp [results, Tryz.results20, go_sem, *]) rfl ⟨rfl, ?_⟩
  (repeat first | exact Below.refl _ _ | assumption | refine Below.drew ?_ | refine Below.alloc ?_ (by simp <;> omega) _ | refine Below.setCell ?_ (by simp <;> omega) _)
set_option maxHeartbeats 1000000 in
theorem refRound_fin (v : Int) (w : World) (h1 : -1000000000000000000 ≤ v) (h2 : v ≤ 1000000000000000000) :
    Calls Tryz.prog 21 #[.agg #[.int .i64 0, .int .i64 v]] w fun e w' => e = .returned (.agg #[.int .i64 0, .int .i64 (v + 500000 - (v + 500000) % 1000000)]) ∧ Below w.heap.size w w' := by
  have HF := hide (fun w => refFloor_fin v w (by omega) (by omega))
  have hm1 : 0 ≤ v % 1000000 := Int.emod_nonneg _ (by decide)
  have hm2 : v % 1000000 < 1000000 := Int.emod_lt_of_pos _ (by decide)
  have hcase : (v % 1000000 < 500000 ∧ v + 500000 - (v + 500000) % 1000000 = v - v % 1000000) ∨ (500000 ≤ v % 1000000 ∧ v + 500000 - (v + 500000) % 1000000 = v - v % 1000000 + 1000000) := by omega
  generalize v + 500000 - (v + 500000) % 1000000 = z at *
  generalize hm : v % 1000000 = m at *
  clear hm
  have hfb : -1000000000001000000 ≤ v - m ∧ v - m ≤ 1000000000001000000 := by omega
  obtain ⟨f, hf⟩ : ∃ f, f = v - m := ⟨_, rfl⟩
  rw [← hf] at HF hcase hfb
  have hvf : v = f + m := by omega
  clear hf
  subst hvf
  obtain ⟨hf1, hf2⟩ := hfb
  go_enter Tryz.func21, Tryz.ntmps21
  go_wp2_with fail
  refine (unhide HF _).mono ?_
  rintro e w1 ⟨rfl, hb⟩
  have hr := NumAt.below (b := w.heap.size + 1) (k := 0) (v := 0) ⟨by simp [go_sem], by simp [go_sem], by simp [go_sem], by simp [go_sem]⟩ hb
  have hA := NumAt.below (b := w.heap.size) (k := 0) (v := f + m) ⟨by simp [go_sem], by simp [go_sem], by simp [go_sem], by simp [go_sem]⟩ hb
  have hb1 : Below w.heap.size w w1 := Below.then (by (repeat first | exact Below.refl _ _ | assumption | refine Below.drew ?_ | refine Below.alloc ?_ (by simp <;> omega) _ | refine Below.setCell ?_ (by simp <;> omega) _)) hb
  have hl0 := block_lt_of_cell hr.kind
  have hl1 := block_lt_of_cell hA.kind
  have hs := hb1.size
  clear hb HF
  obtain ⟨q0, q1, q2, q3⟩ := hr
  obtain ⟨a0, a1, a2, a3⟩ := hA
  rcases hcase with ⟨c1, rfl⟩ | ⟨c1, rfl⟩
  · go_wp2
    refine bodyPost_ret (v := .agg #[.int .i64 0, .int .i64 z]) (by simp [results, Tryz.results21, go_sem, *]) rfl ⟨rfl, ?_⟩
    (repeat first | assumption | refine Below.drew ?_ | refine Below.setCell ?_ (by first | omega | (simp; omega) | (simp; done)) _ | refine Below.alloc ?_ (by first | omega | (simp; omega) | (simp; done)) _ | exact Below.refl _ _)
  · go_wp2_with (go_at_call 36; refine (fin_ex _ _).mono ?_; rintro e w' ⟨rfl, rfl⟩)
    refine bodyPost_ret (v := .agg #[.int .i64 0, .int .i64 (f + 1000000)]) (by simp [results, Tryz.results21, go_sem, *]) rfl ⟨rfl, ?_⟩
    (repeat first | assumption | refine Below.drew ?_ | refine Below.setCell ?_ (by first | omega | (simp; omega) | (simp; done)) _ | refine Below.alloc ?_ (by first | omega | (simp; omega) | (simp; done)) _ | exact Below.refl _ _)
set_option maxHeartbeats 1000000 in
theorem refInt_any (n : Int) (w : World) (h1 : -9223372036854775808 ≤ n) (h2 : n ≤ 9223372036854775807) :
    Calls Tryz.prog 23 #[.int .i64 n] w fun e w' => e = .returned (.agg #[.int .i64 (intK n), .int .i64 (intV n)]) ∧ Below w.heap.size w w' := by
  unfold intK intV
  have i1 : infK true = 3 := rfl
  have i2 : infK false = 2 := rfl
  by_cases h3 : n < -1000000000000
  · have h3' : ¬ 1000000000000 < n := by omega
    simp only [if_pos h3]
    go_enter Tryz.func23, Tryz.ntmps23
    go_wp2_with (go_at_call 39; refine (inf_ex _ _).mono ?_; rintro e w' ⟨rfl, rfl⟩)
    refine bodyPost_ret (v := .agg #[.int .i64 3, .int .i64 0]) (by simp [results, Tryz.results23, go_sem]) rfl ?_
    refine ⟨rfl, ?_⟩
    (repeat first | exact Below.refl _ _ | assumption | refine Below.drew ?_ | refine Below.alloc ?_ (by simp <;> omega) _ | refine Below.setCell ?_ (by simp <;> omega) _)
  · by_cases h4 : 1000000000000 < n
    · simp only [if_neg h3, if_pos h4]
      go_enter Tryz.func23, Tryz.ntmps23
      go_wp2_with (go_at_call 39; refine (inf_ex _ _).mono ?_; rintro e w' ⟨rfl, rfl⟩)
      refine bodyPost_ret (v := .agg #[.int .i64 2, .int .i64 0]) (by simp [results, Tryz.results23, go_sem]) rfl ?_
      refine ⟨rfl, ?_⟩
      (repeat first | exact Below.refl _ _ | assumption | refine Below.drew ?_ | refine Below.alloc ?_ (by simp <;> omega) _ | refine Below.setCell ?_ (by simp <;> omega) _)
    · simp only [if_neg h3, if_neg h4]
      go_enter Tryz.func23, Tryz.ntmps23
      go_wp2_with (go_at_call 36; refine (fin_ex _ _).mono ?_; rintro e w' ⟨rfl, rfl⟩)
      refine bodyPost_ret (v := .agg #[.int .i64 0, .int .i64 (n * 1000000)]) (by simp [results, Tryz.results23, go_sem]) rfl ?_
      refine ⟨rfl, ?_⟩
      (repeat first | exact Below.refl _ _ | assumption | refine Below.drew ?_ | refine Below.alloc ?_ (by simp <;> omega) _ | refine Below.setCell ?_ (by simp <;> omega) _)
set_option maxHeartbeats 1000000 in
theorem xright_any (k v : Int) (w : World) :
    Calls Tryz.prog 18 #[.agg #[.int .i64 k, .int .i64 v]] w fun e w' => e = .returned (.bool (rightB k v)) ∧ Below w.heap.size w w' := by
  by_cases h0 : k = 0
  · subst h0
    go_enter Tryz.func18, Tryz.ntmps18
    go_wp2
    all_goals
      go_ret
      exact ⟨ret_bool (by first | (simp [rightB, *]; done) | (simp [rightB, *]; omega)), by (repeat first | exact Below.refl _ _ | assumption | refine Below.drew ?_ | refine Below.alloc ?_ (by simp <;> omega) _ | refine Below.setCell ?_ (by simp <;> omega) _)⟩
  · by_cases h1 : k = 1 ∨ k = 2 ∨ k = 3
    · have HR := hide (show rightB k v = (v == 0) by unfold rightB; rw [if_neg h0, if_pos h1])
      rcases h1 with rfl | rfl | rfl
      all_goals
        go_enter Tryz.func18, Tryz.ntmps18
        go_wp2
        go_ret
        exact ⟨ret_bool (unhide HR).symm, by (repeat first | exact Below.refl _ _ | assumption | refine Below.drew ?_ | refine Below.alloc ?_ (by simp <;> omega) _ | refine Below.setCell ?_ (by simp <;> omega) _)⟩
    · have HR := hide (show rightB k v = false by unfold rightB; rw [if_neg h0, if_neg h1])
      have e0 : (k == 0) = false := by simpa using h0
      have e1 : (k == 1) = false := by simpa using fun h => h1 (.inl h)
      have e2 : (k == 2) = false := by simpa using fun h => h1 (.inr (.inl h))
      have e3 : (k == 3) = false := by simpa using fun h => h1 (.inr (.inr h))
      clear h0 h1
      go_enter Tryz.func18, Tryz.ntmps18
      go_wp2
      go_ret
      exact ⟨ret_bool (unhide HR).symm, by (repeat first | exact Below.refl _ _ | assumption | refine Below.drew ?_ | refine Below.alloc ?_ (by simp <;> omega) _ | refine Below.setCell ?_ (by simp <;> omega) _)⟩
end Go.Proofs.YtigbaoadnonjfaaGreatDoor
