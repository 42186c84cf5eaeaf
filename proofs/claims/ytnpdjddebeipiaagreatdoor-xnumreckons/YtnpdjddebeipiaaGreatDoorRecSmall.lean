/- Small functions of stencilref02: Nan, Inf, Fin, made, size. -/
import Derived.Test.YtnpdjddebeipiaaGreatDoorNumSmall
import Derived.Test.YtnpdjddebeipiaaGreatDoorNumInv
namespace Go.Proofs.YtnpdjddebeipiaaGreatDoor
open Go.RowKit
set_option maxHeartbeats 1000000 in
theorem refInf_any (b : Bool) (w : World) :
    Calls Tryz.prog 35 #[.bool b] w fun e w' => e = .returned (.agg #[.int .i64 (infK b), .int .i64 0]) ∧ Below w.heap.size w w' := by
  cases b
  all_goals
    go_enter Tryz.func35, Tryz.ntmps35
    go_wp2
  · refine bodyPost_ret (v := .agg #[.int .i64 2, .int .i64 0]) (by simp [results, Tryz.results35, go_sem]) rfl ?_
    refine ⟨rfl, ?_⟩
    (repeat first | exact Below.refl _ _ | assumption | refine Below.drew ?_ | refine Below.alloc ?_ (by simp <;> omega) _ | refine Below.setCell ?_ (by simp <;> omega) _)
  · refine bodyPost_ret (v := .agg #[.int .i64 3, .int .i64 0]) (by simp [results, Tryz.results35, go_sem]) rfl ?_
    refine ⟨rfl, ?_⟩
    (repeat first | exact Below.refl _ _ | assumption | refine Below.drew ?_ | refine Below.alloc ?_ (by simp <;> omega) _ | refine Below.setCell ?_ (by simp <;> omega) _)
set_option maxHeartbeats 1000000 in
theorem refFin_is (v : Int) (w : World) :
    Calls Tryz.prog 39 #[.int .i64 v] w fun e w' => e = .returned (.agg #[.int .i64 0, .int .i64 v]) ∧ Below w.heap.size w w' := by
  go_enter Tryz.func39, Tryz.ntmps39
  go_wp2
  refine bodyPost_ret (v := .agg #[.int .i64 0, .int .i64 v]) (by simp [results, Tryz.results39, go_sem]) rfl ?_
  refine ⟨rfl, ?_⟩
  (repeat first | exact Below.refl _ _ | assumption | refine Below.drew ?_ | refine Below.alloc ?_ (by simp <;> omega) _ | refine Below.setCell ?_ (by simp <;> omega) _)
set_option maxRecDepth 100000 in
set_option maxHeartbeats 1000000 in
theorem refMade_any (n : Nat) (b : Bool) (w : World) (hn : n < 18446744073709551616) :
    Calls Tryz.prog 33 #[.int .u64 (n : Int), .bool b, .bool false] w fun e w' => e = .returned (.agg #[.int .i64 (signK b n), .int .i64 (signN b n)]) ∧ Below w.heap.size w w' := by
  unfold signK signN
  by_cases hg : 1000000000000000000 < n
  · rw [if_pos hg, if_pos hg]
    have hg' : (1000000000000000000 : Int) < (n : Int) := by omega
    have HI := hide (fun w => refInf_any b w)
    generalize infK b = K at *
    clear hn hg
    go_enter Tryz.func33, Tryz.ntmps33
    go_wp2_with fail
    refine (unhide HI _).mono ?_
    rintro e w7 ⟨rfl, hb7⟩
    have hNz := NumAt.below (b := w.heap.size) (k := 0) (v := 0) ⟨by simp [go_sem], by simp [go_sem], by simp [go_sem], by simp [go_sem]⟩ hb7
    have hfin : Below w.heap.size w w7 := Below.then (by (repeat first | exact Below.refl _ _ | assumption | refine Below.drew ?_ | refine Below.alloc ?_ (by simp <;> omega) _ | refine Below.setCell ?_ (by simp <;> omega) _)) hb7
    have hP := hNz.put K 0
    have hB := putN_below hfin (Nat.le_refl w.heap.size) K 0
    obtain ⟨q0, q1, q2, q3⟩ := hNz
    clear hb7 hfin
    go_wp2
    show bodyPost _ _ _ _ _ (putN w7 w.heap.size K 0)
    generalize putN w7 w.heap.size K 0 = X at hP hB ⊢
    obtain ⟨x0, x1, _, _⟩ := hP
    refine bodyPost_ret (v := .agg #[.int .i64 K, .int .i64 0]) ?_ rfl ⟨rfl, hB⟩
    simp [results, Tryz.results33, go_sem, x0, x1]
  · rw [if_neg hg, if_neg hg]
    have hg' : ¬ (1000000000000000000 : Int) < (n : Int) := by omega
    cases b
    · simp only [Bool.false_eq_true, if_false]
      have HF := hide (fun w => refFin_is (n : Int) w)
      have hw : IntKind.i64.wrap (n : Int) = (n : Int) := by rw [IntKind.wrap_i64]; omega
      clear hn hg
      go_enter Tryz.func33, Tryz.ntmps33
      go_wp2_with fail
      refine (unhide HF _).mono ?_
      rintro e w7 ⟨rfl, hb7⟩
      have hNz := NumAt.below (b := w.heap.size) (k := 0) (v := 0) ⟨by simp [go_sem], by simp [go_sem], by simp [go_sem], by simp [go_sem]⟩ hb7
      have hfin : Below w.heap.size w w7 := Below.then (by (repeat first | exact Below.refl _ _ | assumption | refine Below.drew ?_ | refine Below.alloc ?_ (by simp <;> omega) _ | refine Below.setCell ?_ (by simp <;> omega) _)) hb7
      have hP := hNz.put 0 (n : Int)
      have hB := putN_below hfin (Nat.le_refl w.heap.size) 0 (n : Int)
      obtain ⟨q0, q1, q2, q3⟩ := hNz
      clear hb7 hfin
      go_wp2
      show bodyPost _ _ _ _ _ (putN w7 w.heap.size 0 (n : Int))
      generalize putN w7 w.heap.size 0 (n : Int) = X at hP hB ⊢
      obtain ⟨x0, x1, _, _⟩ := hP
      refine bodyPost_ret (v := .agg #[.int .i64 0, .int .i64 (n : Int)]) ?_ rfl ⟨rfl, hB⟩
      simp [results, Tryz.results33, go_sem, x0, x1]
    · simp only [if_true]
      have HF := hide (fun w => refFin_is (-(n : Int)) w)
      have hw : IntKind.i64.wrap (n : Int) = (n : Int) := by rw [IntKind.wrap_i64]; omega
      have hw2 : IntKind.i64.wrap (-(n : Int)) = -(n : Int) := by rw [IntKind.wrap_i64]; omega
      clear hn hg
      go_enter Tryz.func33, Tryz.ntmps33
      go_wp2_with fail
      refine (unhide HF _).mono ?_
      rintro e w7 ⟨rfl, hb7⟩
      have hNz := NumAt.below (b := w.heap.size) (k := 0) (v := 0) ⟨by simp [go_sem], by simp [go_sem], by simp [go_sem], by simp [go_sem]⟩ hb7
      have hfin : Below w.heap.size w w7 := Below.then (by (repeat first | exact Below.refl _ _ | assumption | refine Below.drew ?_ | refine Below.alloc ?_ (by simp <;> omega) _ | refine Below.setCell ?_ (by simp <;> omega) _)) hb7
      have hP := hNz.put 0 (-(n : Int))
      have hB := putN_below hfin (Nat.le_refl w.heap.size) 0 (-(n : Int))
      obtain ⟨q0, q1, q2, q3⟩ := hNz
      clear hb7 hfin
      go_wp2
      show bodyPost _ _ _ _ _ (putN w7 w.heap.size 0 (-(n : Int)))
      generalize putN w7 w.heap.size 0 (-(n : Int)) = X at hP hB ⊢
      obtain ⟨x0, x1, _, _⟩ := hP
      refine bodyPost_ret (v := .agg #[.int .i64 0, .int .i64 (-(n : Int))]) ?_ rfl ⟨rfl, hB⟩
      simp [results, Tryz.results33, go_sem, x0, x1]
set_option maxRecDepth 100000 in
set_option maxHeartbeats 1000000 in
theorem refSize_any (k v : Int) (w : World) (h1 : -1000000000000000000 ≤ v) (h2 : v ≤ 1000000000000000000) :
    Calls Tryz.prog 37 #[.agg #[.int .i64 k, .int .i64 v]] w fun e w' => e = .returned (.int .u64 (v.natAbs : Int)) ∧ Below w.heap.size w w' := by
  by_cases hv : v < 0
  · have e1 : (v.natAbs : Int) = -v := by omega
    rw [e1]
    have w1 : wrap64 (v + 1) = v + 1 := by unfold wrap64; omega
    have w2 : wrap64 (-(v + 1)) = -(v + 1) := by unfold wrap64; omega
    go_enter Tryz.func37, Tryz.ntmps37
    go_wp2
    go_ret
    exact ⟨ret_val (by simp <;> omega), (Below.refl _ _).alloc (Nat.le_refl _) _⟩
  · have e1 : (v.natAbs : Int) = v := by omega
    rw [e1]
    go_enter Tryz.func37, Tryz.ntmps37
    go_wp2
    go_ret
    exact ⟨rfl, (Below.refl _ _).alloc (Nat.le_refl _) _⟩
end Go.Proofs.YtnpdjddebeipiaaGreatDoor
