/- Sums, quotients and rests: stencilref02's Add, Sub, Div, Mod. -/
import Derived.Test.YtnpdjddebeipiaaGreatDoorRecKinds
import Derived.Test.YtnpdjddebeipiaaGreatDoorRecQuot
import Derived.Test.YtnpdjddebeipiaaGreatDoorClsTail
namespace Go.Proofs.YtnpdjddebeipiaaGreatDoor
open Go.RowKit
set_option maxHeartbeats 4000000 in
theorem refAdd_fin (v u : Int) (w : World) (h1 : -1000000000000000000 ≤ v) (h2 : v ≤ 1000000000000000000) (h3 : -1000000000000000000 ≤ u) (h4 : u ≤ 1000000000000000000) :
    Calls Tryz.prog 11 #[.agg #[.int .i64 0, .int .i64 v], .agg #[.int .i64 0, .int .i64 u]] w fun e w' => e = .returned (.agg #[.int .i64 (signK (decide (v + u < 0)) (v + u).natAbs), .int .i64 (signN (decide (v + u < 0)) (v + u).natAbs)]) ∧ Below w.heap.size w w' := by
  have HM := hide (fun b w => refMade_any (v + u).natAbs b w (by omega))
  have HW := hide (show wrap64 (v + u) = v + u by unfold wrap64; omega)
  obtain ⟨s, hs⟩ : ∃ s, v + u = s := ⟨_, rfl⟩
  rw [hs] at HM HW ⊢
  obtain ⟨n, hn⟩ : ∃ n, s.natAbs = n := ⟨_, rfl⟩
  rw [hn] at HM ⊢
  by_cases hneg : s < 0
  · have HB := hide (show decide (s < 0) = true from decide_eq_true hneg)
    have e1 : wrap64 (-s) = (n : Int) := by unfold wrap64; omega
    have e2 : IntKind.u64.wrap (n : Int) = (n : Int) := by rw [IntKind.wrap_u64]; omega
    have e3 : wrap64 (v + u) = s := by rw [hs]; exact unhide HW
    rw [unhide HB]
    clear hs hn h1 h2 h3 h4 HB HW
    have HM2 := hide (fun w => unhide HM true w)
    clear HM
    generalize signK true n = K at *
    generalize signN true n = V at *
    go_enter Tryz.func11, Tryz.ntmps11
    go_wp2_with fail
    refine (unhide HM2 _).mono ?_
    rintro e w1 ⟨rfl, hb⟩
    have hr := NumAt.below (b := w.heap.size + 1 + 1) (k := 0) (v := 0) ⟨by simp [go_sem], by simp [go_sem], by simp [go_sem], by simp [go_sem]⟩ hb
    have hfin : Below w.heap.size w w1 := Below.then (by (repeat first | exact Below.refl _ _ | assumption | refine Below.drew ?_ | refine Below.alloc ?_ (by simp <;> omega) _ | refine Below.setCell ?_ (by simp <;> omega) _)) hb
    have hP := hr.put K V
    have hB := putN_below hfin (show w.heap.size ≤ w.heap.size + 1 + 1 by omega) K V
    obtain ⟨q0, q1, q2, q3⟩ := hr
    clear hb hfin e2 e3
    go_wp2
    show bodyPost _ _ _ _ _ (putN w1 (w.heap.size + 1 + 1) K V)
    generalize putN w1 (w.heap.size + 1 + 1) K V = X at hP hB ⊢
    obtain ⟨x0, x1, _, _⟩ := hP
    refine bodyPost_ret (v := .agg #[.int .i64 K, .int .i64 V]) ?_ rfl ⟨rfl, hB⟩
    simp [results, Tryz.results11, go_sem, x0, x1]
  · have HB := hide (show decide (s < 0) = false from decide_eq_false hneg)
    have e1 : s = (n : Int) := by omega
    have e2 : IntKind.u64.wrap (n : Int) = (n : Int) := by rw [IntKind.wrap_u64]; omega
    have e3 : wrap64 (v + u) = s := by rw [hs]; exact unhide HW
    rw [unhide HB]
    clear hs hn h1 h2 h3 h4 HB HW
    subst e1
    have hneg' : ¬ (n : Int) < 0 := hneg
    clear hneg
    have HM2 := hide (fun w => unhide HM false w)
    clear HM
    generalize signK false n = K at *
    generalize signN false n = V at *
    go_enter Tryz.func11, Tryz.ntmps11
    go_wp2_with fail
    refine (unhide HM2 _).mono ?_
    rintro e w1 ⟨rfl, hb⟩
    have hr := NumAt.below (b := w.heap.size + 1 + 1) (k := 0) (v := 0) ⟨by simp [go_sem], by simp [go_sem], by simp [go_sem], by simp [go_sem]⟩ hb
    have hfin : Below w.heap.size w w1 := Below.then (by (repeat first | exact Below.refl _ _ | assumption | refine Below.drew ?_ | refine Below.alloc ?_ (by simp <;> omega) _ | refine Below.setCell ?_ (by simp <;> omega) _)) hb
    have hP := hr.put K V
    have hB := putN_below hfin (show w.heap.size ≤ w.heap.size + 1 + 1 by omega) K V
    obtain ⟨q0, q1, q2, q3⟩ := hr
    clear hb hfin e2 e3
    go_wp2
    show bodyPost _ _ _ _ _ (putN w1 (w.heap.size + 1 + 1) K V)
    generalize putN w1 (w.heap.size + 1 + 1) K V = X at hP hB ⊢
    obtain ⟨x0, x1, _, _⟩ := hP
    refine bodyPost_ret (v := .agg #[.int .i64 K, .int .i64 V]) ?_ rfl ⟨rfl, hB⟩
    simp [results, Tryz.results11, go_sem, x0, x1]
set_option maxHeartbeats 4000000 in
theorem refDiv_not (k v l u K : Int) (w : World) (h : ((k == 1) = true ∧ K = 1) ∨ ((k == 1) = false ∧ (l == 1) = true ∧ K = 1) ∨ ((k == 1) = false ∧ (l == 1) = false ∧ (k != 0) = true ∧ (l != 0) = true ∧ K = 1) ∨ ((k == 1) = false ∧ (l == 1) = false ∧ (k != 0) = false ∧ (l != 0) = true ∧ K = 0) ∨ (k = 0 ∧ l = 0 ∧ u = 0 ∧ v = 0 ∧ K = 1) ∨ (k = 0 ∧ l = 0 ∧ u = 0 ∧ (v == 0) = false ∧ K = infK (decide (v < 0)))) :
    Calls Tryz.prog 14 #[.agg #[.int .i64 k, .int .i64 v], .agg #[.int .i64 l, .int .i64 u]] w fun e w' => e = .returned (.agg #[.int .i64 K, .int .i64 0]) ∧ Below w.heap.size w w' := by
  rcases h with ⟨h1, hK⟩ | ⟨h1, h2, hK⟩ | ⟨h1, h2, h3, h4, hK⟩ | ⟨h1, h2, h3, h4, hK⟩ | ⟨rfl, rfl, rfl, rfl, hK⟩ | ⟨rfl, rfl, rfl, h4, hK⟩
  all_goals
    have HK := hide hK
    clear hK
    go_enter Tryz.func14, Tryz.ntmps14
    go_wp2_with (first | (go_at_call 32; refine (nanR_ex _).mono ?_; rintro e w' ⟨rfl, rfl⟩) | (go_at_call 39; refine (finR_ex _ _).mono ?_; rintro e w' ⟨rfl, rfl⟩) | (go_at_call 35; refine (infR_ex _ _).mono ?_; rintro e w' ⟨rfl, rfl⟩))
    refine bodyPost_ret (v := .agg #[.int .i64 K, .int .i64 0]) (by rw [unhide HK]; simp [results, Tryz.results14, go_sem]) rfl ⟨rfl, ?_⟩
    (repeat first | exact Below.refl _ _ | assumption | refine Below.drew ?_ | refine Below.alloc ?_ (by simp <;> omega) _ | refine Below.setCell ?_ (by simp <;> omega) _)
set_option maxRecDepth 100000 in
set_option maxHeartbeats 4000000 in
theorem refDiv_inf (k v l u : Int) (w : World) (hk : k = 0 ∨ k = 1 ∨ k = 2 ∨ k = 3) (hl : l = 0 ∨ l = 1 ∨ l = 2 ∨ l = 3) (h1 : (k == 1) = false) (h2 : (l == 1) = false) (h3 : (k != 0) = true) (h4 : (l != 0) = false) (K : Int) (hK : infK (decide (sgnN k v < 0) != decide (sgnN l u < 0)) = K) :
    Calls Tryz.prog 14 #[.agg #[.int .i64 k, .int .i64 v], .agg #[.int .i64 l, .int .i64 u]] w fun e w' => e = .returned (.agg #[.int .i64 K, .int .i64 0]) ∧ Below w.heap.size w w' := by
  have HA := hide (fun w => refSign_right k v w hk)
  have HB := hide (fun w => refSign_right l u w hl)
  have HI := hide (fun w => infR_ex (decide (sgnN k v < 0) != decide (sgnN l u < 0)) w)
  rw [hK] at HI
  clear hk hl hK
  generalize hsa : sgnN k v = sa at *
  generalize hsb : sgnN l u = sb at *
  clear hsa hsb
  go_enter Tryz.func14, Tryz.ntmps14
  go_wp2_with fail
  have hb0 : Below w.heap.size w (((w.alloc (.cells #[.int .i64 k, .int .i64 v] 24)).alloc (.cells #[.int .i64 l, .int .i64 u] 24)).alloc (.cells #[.int .i64 0, .int .i64 0] 24)) := by
    (repeat first | exact Below.refl _ _ | assumption | refine Below.drew ?_ | refine Below.alloc ?_ (by simp <;> omega) _ | refine Below.setCell ?_ (by simp <;> omega) _)
  have hA : NumAt (((w.alloc (.cells #[.int .i64 k, .int .i64 v] 24)).alloc (.cells #[.int .i64 l, .int .i64 u] 24)).alloc (.cells #[.int .i64 0, .int .i64 0] 24)) w.heap.size k v := ⟨by simp [go_sem], by simp [go_sem], by simp [go_sem], by simp [go_sem]⟩
  have hB : NumAt (((w.alloc (.cells #[.int .i64 k, .int .i64 v] 24)).alloc (.cells #[.int .i64 l, .int .i64 u] 24)).alloc (.cells #[.int .i64 0, .int .i64 0] 24)) (w.heap.size + 1) l u := ⟨by simp [go_sem], by simp [go_sem], by simp [go_sem], by simp [go_sem]⟩
  have hR : NumAt (((w.alloc (.cells #[.int .i64 k, .int .i64 v] 24)).alloc (.cells #[.int .i64 l, .int .i64 u] 24)).alloc (.cells #[.int .i64 0, .int .i64 0] 24)) (w.heap.size + 1 + 1) 0 0 := ⟨by simp [go_sem], by simp [go_sem], by simp [go_sem], by simp [go_sem]⟩
  generalize (((w.alloc (.cells #[.int .i64 k, .int .i64 v] 24)).alloc (.cells #[.int .i64 l, .int .i64 u] 24)).alloc (.cells #[.int .i64 0, .int .i64 0] 24)) = W at hb0 hA hB hR ⊢
  have HR := hide hR
  have hC : ClsN W w.heap.size (w.heap.size + 1) k v l u W.drew := ⟨(Below.refl _ _).drew, hA.kind, hA.val, hB.kind, hB.val⟩
  have HX := hide hC
  have HCE := hide (fun (w' : World) (hC : ClsN W w.heap.size (w.heap.size + 1) k v l u w') => And.intro hC.a0 (And.intro hC.a1 (And.intro hC.b0 hC.b1)))
  have HB0 := hide hb0
  clear hA hB hR hb0 hC
  refine wp_region_cls_tail 8 (ClsN W w.heap.size (w.heap.size + 1) k v l u) (by kernel_rfl) (by kernel_rfl) (by kernel_rfl) (unhide HX) ?_
  simp only [List.take_succ_cons, List.take_zero, List.drop_succ_cons, List.drop_zero]
  repeat
    (first
      | go_big_quiet_skip
      | (go_big_quiet_want
         go_big_quiet_op
         first
           | go_big_quiet_on
           | (apply Exists.intro
              refine ⟨fun w' hC => ?_, ?_⟩
              · (first
                  | (go_at_call_of 34 (Value.agg #[Value.int IntKind.i64 k, Value.int IntKind.i64 v]); refine (unhide HA _).mono ?_; rintro e w3 ⟨rfl, rfl⟩; exact ⟨rfl, hC.below ((Below.refl _ _).alloc (Nat.le_refl _) _)⟩)
                  | (go_at_call 34; refine (unhide HB _).mono ?_; rintro e w3 ⟨rfl, rfl⟩; exact ⟨rfl, hC.below ((Below.refl _ _).alloc (Nat.le_refl _) _)⟩)
                  | (go_at_call 35; refine (unhide HI _).mono ?_; rintro e w3 ⟨rfl, rfl⟩; exact ⟨rfl, hC.below ((Below.refl _ _).alloc (Nat.le_refl _) _)⟩)
                  | (obtain ⟨k0, k1, k2, k3⟩ := unhide HCE _ hC; go_simp; first | done | rfl))
              go_big_quiet_on)))
  refine wpQuiet_nil ?_
  intro w2 hC2
  have hR2 := (unhide HR).below hC2.bel
  have hP := hR2.put K 0
  have hB := putN_below (Below.then (unhide HB0) hC2.bel) (show w.heap.size ≤ w.heap.size + 1 + 1 by omega) K 0
  obtain ⟨q0, q1, q2, q3⟩ := hR2
  clear hC2 HX HCE HR HB0
  go_wp2
  show bodyPost _ _ _ _ _ (putN w2 (w.heap.size + 1 + 1) K 0)
  generalize putN w2 (w.heap.size + 1 + 1) K 0 = X at hP hB ⊢
  obtain ⟨x0, x1, _, _⟩ := hP
  refine bodyPost_ret (v := .agg #[.int .i64 K, .int .i64 0]) ?_ rfl ⟨rfl, hB⟩
  simp [results, Tryz.results14, go_sem, x0, x1]
/-- What made tells of a quotient. -/
theorem refMade_quo (a b : Nat) (bb : Bool) (w : World) (hb : 0 < b) :
    Calls Tryz.prog 33 #[.int .u64 (quoN a b : Int), .bool bb, .bool (quoG a b)] w fun e w' => e = .returned (.agg #[.int .i64 (signK bb (a * 1000000 / b)), .int .i64 (signN bb (a * 1000000 / b))]) ∧ Below w.heap.size w w' := by
  cases hg : quoG a b
  · have h1 : ¬ 1000000000000000000 < a * 1000000 / b := by
      unfold quoG at hg
      exact of_decide_eq_false hg
    have h2 : quoN a b = a * 1000000 / b := by
      unfold quoN
      rw [if_neg]
      intro h
      have := Nat.div_le_div_right (c := b) (ahead_le (a * 1000000) 1)
      omega
    have := refMade_any (quoN a b) bb w (quoN_lt a b hb)
    rw [h2] at this ⊢
    exact this
  · have h1 : 1000000000000000000 < a * 1000000 / b := by
      unfold quoG at hg
      exact of_decide_eq_true hg
    have := refMade_great (quoN a b) bb w
    unfold signK signN
    rw [if_pos h1, if_pos h1]
    exact this
set_option maxRecDepth 100000 in
set_option maxHeartbeats 4000000 in
theorem refDiv_fin (v u : Int) (w : World) (h1 : -1000000000000000000 ≤ v) (h2 : v ≤ 1000000000000000000) (h3 : -1000000000000000000 ≤ u) (h4 : u ≤ 1000000000000000000) (hu : (u == 0) = false) (bb : Bool) (hbb : decide (wrap64 (sgnN 0 v * sgnN 0 u) < 0) = bb) (K V : Int) (hK : signK bb (v.natAbs * 1000000 / u.natAbs) = K) (hV : signN bb (v.natAbs * 1000000 / u.natAbs) = V) :
    Calls Tryz.prog 14 #[.agg #[.int .i64 0, .int .i64 v], .agg #[.int .i64 0, .int .i64 u]] w fun e w' => e = .returned (.agg #[.int .i64 K, .int .i64 V]) ∧ Below w.heap.size w w' := by
  have hu0 : 0 < u.natAbs := by
    have : u ≠ 0 := by simpa using hu
    omega
  have HSA := hide (fun w => refSign_right 0 v w (.inl rfl))
  have HSB := hide (fun w => refSign_right 0 u w (.inl rfl))
  have HZV := hide (fun w => refSize_any 0 v w h1 h2)
  have HZU := hide (fun w => refSize_any 0 u w h3 h4)
  have HQ := hide (fun w => refQuotient_any v.natAbs u.natAbs w (by omega) hu0 (by omega))
  have HMD := hide (fun w => refMade_quo v.natAbs u.natAbs bb w hu0)
  rw [hK, hV] at HMD
  rw [← hbb] at HMD
  clear hK hV hbb hu0 h1 h2 h3 h4
  generalize sgnN 0 v = sa at *
  generalize sgnN 0 u = sb at *
  generalize quoN v.natAbs u.natAbs = n at *
  generalize quoG v.natAbs u.natAbs = g at *
  generalize v.natAbs = nv at *
  generalize u.natAbs = nu at *
  go_enter Tryz.func14, Tryz.ntmps14
  go_wp2_with fail
  have hb0 : Below w.heap.size w (((w.alloc (.cells #[.int .i64 0, .int .i64 v] 24)).alloc (.cells #[.int .i64 0, .int .i64 u] 24)).alloc (.cells #[.int .i64 0, .int .i64 0] 24)) := by
    (repeat first | exact Below.refl _ _ | assumption | refine Below.drew ?_ | refine Below.alloc ?_ (by simp <;> omega) _ | refine Below.setCell ?_ (by simp <;> omega) _)
  have hA : NumAt (((w.alloc (.cells #[.int .i64 0, .int .i64 v] 24)).alloc (.cells #[.int .i64 0, .int .i64 u] 24)).alloc (.cells #[.int .i64 0, .int .i64 0] 24)) w.heap.size 0 v := ⟨by simp [go_sem], by simp [go_sem], by simp [go_sem], by simp [go_sem]⟩
  have hB : NumAt (((w.alloc (.cells #[.int .i64 0, .int .i64 v] 24)).alloc (.cells #[.int .i64 0, .int .i64 u] 24)).alloc (.cells #[.int .i64 0, .int .i64 0] 24)) (w.heap.size + 1) 0 u := ⟨by simp [go_sem], by simp [go_sem], by simp [go_sem], by simp [go_sem]⟩
  have hR : NumAt (((w.alloc (.cells #[.int .i64 0, .int .i64 v] 24)).alloc (.cells #[.int .i64 0, .int .i64 u] 24)).alloc (.cells #[.int .i64 0, .int .i64 0] 24)) (w.heap.size + 1 + 1) 0 0 := ⟨by simp [go_sem], by simp [go_sem], by simp [go_sem], by simp [go_sem]⟩
  generalize (((w.alloc (.cells #[.int .i64 0, .int .i64 v] 24)).alloc (.cells #[.int .i64 0, .int .i64 u] 24)).alloc (.cells #[.int .i64 0, .int .i64 0] 24)) = W at hb0 hA hB hR ⊢
  have HR := hide hR
  have hC : ClsN W w.heap.size (w.heap.size + 1) 0 v 0 u W.drew := ⟨(Below.refl _ _).drew, hA.kind, hA.val, hB.kind, hB.val⟩
  have HX := hide hC
  have HCE := hide (fun (X w' : World) (hC : ClsN X w.heap.size (w.heap.size + 1) 0 v 0 u w') => And.intro hC.a0 (And.intro hC.a1 (And.intro hC.b0 hC.b1)))
  have HCE1 := hide (unhide HCE W)
  have HB0 := hide hb0
  clear hA hB hR hb0 hC
  refine wp_region_cls (ClsN W w.heap.size (w.heap.size + 1) 0 v 0 u) (by kernel_rfl) (by kernel_rfl) (unhide HX) ?_
  repeat
    (first
      | go_big_quiet_skip
      | (go_big_quiet_want
         go_big_quiet_op
         first
           | go_big_quiet_on
           | (apply Exists.intro
              refine ⟨fun w' hC => ?_, ?_⟩
              · (first
                  | (go_at_call_of 37 (Value.agg #[Value.int IntKind.i64 0, Value.int IntKind.i64 v]); refine (unhide HZV _).mono ?_; rintro e w3 ⟨rfl, hb3⟩; exact ⟨rfl, hC.below hb3⟩)
                  | (go_at_call 37; refine (unhide HZU _).mono ?_; rintro e w3 ⟨rfl, hb3⟩; exact ⟨rfl, hC.below hb3⟩)
                  | (go_at_call 40; refine (unhide HQ _).mono ?_; rintro e w3 ⟨rfl, hb3⟩; exact ⟨rfl, hC.below hb3⟩)
                  | (obtain ⟨k0, k1, k2, k3⟩ := unhide HCE1 _ hC; go_simp; first | done | rfl))
              go_big_quiet_on)))
  refine wpQuiet_nil ?_
  intro w1 hC1
  have hR1 := (unhide HR).below hC1.bel
  have HR1 := hide hR1
  have HB1 := hide (Below.then (unhide HB0) hC1.bel)
  have hC : ClsN w1 w.heap.size (w.heap.size + 1) 0 v 0 u w1.drew := ⟨(Below.refl _ _).drew, hC1.a0, hC1.a1, hC1.b0, hC1.b1⟩
  have HX1 := hide hC
  have HCE2 := hide (unhide HCE w1)
  clear hC hC1 hR1
  go_wp2_with fail
  refine wp_region_cls_tail 9 (ClsN w1 w.heap.size (w.heap.size + 1) 0 v 0 u) (by kernel_rfl) (by kernel_rfl) (by kernel_rfl) (unhide HX1) ?_
  simp only [List.take_succ_cons, List.take_zero, List.drop_succ_cons, List.drop_zero]
  repeat
    (first
      | go_big_quiet_skip
      | (go_big_quiet_want
         go_big_quiet_op
         first
           | go_big_quiet_on
           | (apply Exists.intro
              refine ⟨fun w' hC => ?_, ?_⟩
              · (first
                  | (go_at_call_of 34 (Value.agg #[Value.int IntKind.i64 0, Value.int IntKind.i64 v]); refine (unhide HSA _).mono ?_; rintro e w3 ⟨rfl, rfl⟩; exact ⟨rfl, hC.below ((Below.refl _ _).alloc (Nat.le_refl _) _)⟩)
                  | (go_at_call 34; refine (unhide HSB _).mono ?_; rintro e w3 ⟨rfl, rfl⟩; exact ⟨rfl, hC.below ((Below.refl _ _).alloc (Nat.le_refl _) _)⟩)
                  | (go_at_call 33; refine (unhide HMD _).mono ?_; rintro e w3 ⟨rfl, hb3⟩; exact ⟨rfl, hC.below hb3⟩)
                  | (obtain ⟨k0, k1, k2, k3⟩ := unhide HCE2 _ hC; go_simp; first | done | rfl))
              go_big_quiet_on)))
  refine wpQuiet_nil ?_
  intro w2 hC2
  have hR2 := (unhide HR1).below hC2.bel
  have hP := hR2.put K V
  have hB := putN_below (Below.then (unhide HB1) hC2.bel) (show w.heap.size ≤ w.heap.size + 1 + 1 by omega) K V
  obtain ⟨q0, q1, q2, q3⟩ := hR2
  clear hC2 HX HCE HR HB0
  go_wp2
  show bodyPost _ _ _ _ _ (putN w2 (w.heap.size + 1 + 1) K V)
  generalize putN w2 (w.heap.size + 1 + 1) K V = X at hP hB ⊢
  obtain ⟨x0, x1, _, _⟩ := hP
  refine bodyPost_ret (v := .agg #[.int .i64 K, .int .i64 V]) ?_ rfl ⟨rfl, hB⟩
  simp [results, Tryz.results14, go_sem, x0, x1]
set_option maxHeartbeats 4000000 in
theorem refMod_not (k v l u K V : Int) (w : World) (hl : l = 0 ∨ l = 1 ∨ l = 2 ∨ l = 3) (h : ((k != 0) = true ∧ K = 1 ∧ V = 0) ∨ ((k != 0) = false ∧ (l == 1) = true ∧ K = 1 ∧ V = 0) ∨ ((k != 0) = false ∧ (l == 1) = false ∧ (sgnN l u == 0) = true ∧ K = 1 ∧ V = 0) ∨ ((k != 0) = false ∧ (l == 1) = false ∧ (sgnN l u == 0) = false ∧ (l != 0) = true ∧ K = k ∧ V = v)) :
    Calls Tryz.prog 15 #[.agg #[.int .i64 k, .int .i64 v], .agg #[.int .i64 l, .int .i64 u]] w fun e w' => e = .returned (.agg #[.int .i64 K, .int .i64 V]) ∧ Below w.heap.size w w' := by
  have HS := hide (fun w => refSign_right l u w hl)
  clear hl
  generalize sgnN l u = sb at *
  rcases h with ⟨h1, hK, hV⟩ | ⟨h1, h2, hK, hV⟩ | ⟨h1, h2, h3, hK, hV⟩ | ⟨h1, h2, h3, h4, hK, hV⟩
  all_goals
    subst hK hV
    go_enter Tryz.func15, Tryz.ntmps15
    go_wp2_with (first | (go_at_call 34; refine (unhide HS _).mono ?_; rintro e w' ⟨rfl, rfl⟩) | (go_at_call 32; refine (nanR_ex _).mono ?_; rintro e w' ⟨rfl, rfl⟩))
    first
      | refine bodyPost_ret (v := .agg #[.int .i64 1, .int .i64 0]) (by simp [results, Tryz.results15, go_sem]; done) rfl ⟨rfl, ?_⟩
      | refine bodyPost_ret (v := .agg #[.int .i64 _, .int .i64 _]) (by simp [results, Tryz.results15, go_sem]; done) rfl ⟨rfl, ?_⟩
    (repeat first | exact Below.refl _ _ | assumption | refine Below.drew ?_ | refine Below.alloc ?_ (by simp <;> omega) _ | refine Below.setCell ?_ (by simp <;> omega) _)
set_option maxRecDepth 100000 in
set_option maxHeartbeats 4000000 in
theorem refMod_fin (v u : Int) (w : World) (h1 : -1000000000000000000 ≤ v) (h2 : v ≤ 1000000000000000000) (h3 : -1000000000000000000 ≤ u) (h4 : u ≤ 1000000000000000000) (hu : (u == 0) = false) (hs : (sgnN 0 u == 0) = false) (bb : Bool) (hbb : decide (v < 0) = bb) (K V : Int) (hK : signK bb (v.natAbs % u.natAbs) = K) (hV : signN bb (v.natAbs % u.natAbs) = V) :
    Calls Tryz.prog 15 #[.agg #[.int .i64 0, .int .i64 v], .agg #[.int .i64 0, .int .i64 u]] w fun e w' => e = .returned (.agg #[.int .i64 K, .int .i64 V]) ∧ Below w.heap.size w w' := by
  have hu0 : ¬ u.natAbs = 0 := by
    have : u ≠ 0 := by simpa using hu
    omega
  have HZV := hide (fun w => refSize_any 0 v w h1 h2)
  have HZU := hide (fun w => refSize_any 0 u w h3 h4)
  have HSB := hide (fun w => refSign_right 0 u w (.inl rfl))
  have hlt : v.natAbs % u.natAbs < 18446744073709551616 := by
    have := Nat.mod_lt v.natAbs (Nat.pos_of_ne_zero hu0)
    omega
  have HMD := hide (fun w => refMade_any (v.natAbs % u.natAbs) bb w hlt)
  rw [hK, hV, ← hbb] at HMD
  clear hK hV hbb h1 h2 h3 h4 hu hlt
  generalize sgnN 0 u = sb at *
  generalize v.natAbs = nv at *
  generalize u.natAbs = nu at *
  have e1 : ((nv : Int)).tmod (nu : Int) = ((nv % nu : Nat) : Int) := by rw [Int.tmod_eq_emod_of_nonneg (by omega)]; rfl
  have e2 : (nv : Int) % (nu : Int) = ((nv % nu : Nat) : Int) := rfl
  generalize nv % nu = m at *
  go_enter Tryz.func15, Tryz.ntmps15
  go_wp2_with (go_at_call 34; refine (unhide HSB _).mono ?_; rintro e w' ⟨rfl, rfl⟩)
  have hb0 : Below w.heap.size w ((((w.alloc (.cells #[.int .i64 0, .int .i64 v] 24)).alloc (.cells #[.int .i64 0, .int .i64 u] 24)).alloc (.cells #[.int .i64 0, .int .i64 0] 24)).alloc (.cells #[.int .i64 0, .int .i64 u] 24)) := by
    (repeat first | exact Below.refl _ _ | assumption | refine Below.drew ?_ | refine Below.alloc ?_ (by simp <;> omega) _ | refine Below.setCell ?_ (by simp <;> omega) _)
  have hA : NumAt ((((w.alloc (.cells #[.int .i64 0, .int .i64 v] 24)).alloc (.cells #[.int .i64 0, .int .i64 u] 24)).alloc (.cells #[.int .i64 0, .int .i64 0] 24)).alloc (.cells #[.int .i64 0, .int .i64 u] 24)) w.heap.size 0 v := ⟨by simp [go_sem], by simp [go_sem], by simp [go_sem], by simp [go_sem]⟩
  have hB : NumAt ((((w.alloc (.cells #[.int .i64 0, .int .i64 v] 24)).alloc (.cells #[.int .i64 0, .int .i64 u] 24)).alloc (.cells #[.int .i64 0, .int .i64 0] 24)).alloc (.cells #[.int .i64 0, .int .i64 u] 24)) (w.heap.size + 1) 0 u := ⟨by simp [go_sem], by simp [go_sem], by simp [go_sem], by simp [go_sem]⟩
  have hR : NumAt ((((w.alloc (.cells #[.int .i64 0, .int .i64 v] 24)).alloc (.cells #[.int .i64 0, .int .i64 u] 24)).alloc (.cells #[.int .i64 0, .int .i64 0] 24)).alloc (.cells #[.int .i64 0, .int .i64 u] 24)) (w.heap.size + 1 + 1) 0 0 := ⟨by simp [go_sem], by simp [go_sem], by simp [go_sem], by simp [go_sem]⟩
  generalize ((((w.alloc (.cells #[.int .i64 0, .int .i64 v] 24)).alloc (.cells #[.int .i64 0, .int .i64 u] 24)).alloc (.cells #[.int .i64 0, .int .i64 0] 24)).alloc (.cells #[.int .i64 0, .int .i64 u] 24)) = W at hb0 hA hB hR ⊢
  have HR := hide hR
  have hC : ClsN W w.heap.size (w.heap.size + 1) 0 v 0 u W.drew := ⟨(Below.refl _ _).drew, hA.kind, hA.val, hB.kind, hB.val⟩
  have HX := hide hC
  have HCE := hide (fun (X w' : World) (hC : ClsN X w.heap.size (w.heap.size + 1) 0 v 0 u w') => And.intro hC.a0 (And.intro hC.a1 (And.intro hC.b0 hC.b1)))
  have HCE1 := hide (unhide HCE W)
  have HB0 := hide hb0
  clear hA hB hR hb0 hC
  refine wp_region_cls_tail 9 (ClsN W w.heap.size (w.heap.size + 1) 0 v 0 u) (by kernel_rfl) (by kernel_rfl) (by kernel_rfl) (unhide HX) ?_
  simp only [List.take_succ_cons, List.take_zero, List.drop_succ_cons, List.drop_zero]
  repeat
    (first
      | go_big_quiet_skip
      | (go_big_quiet_want
         go_big_quiet_op
         first
           | go_big_quiet_on
           | (apply Exists.intro
              refine ⟨fun w' hC => ?_, ?_⟩
              · (first
                  | (go_at_call_of 37 (Value.agg #[Value.int IntKind.i64 0, Value.int IntKind.i64 v]); refine (unhide HZV _).mono ?_; rintro e w3 ⟨rfl, hb3⟩; exact ⟨rfl, hC.below hb3⟩)
                  | (go_at_call 37; refine (unhide HZU _).mono ?_; rintro e w3 ⟨rfl, hb3⟩; exact ⟨rfl, hC.below hb3⟩)
                  | (go_at_call 33; refine (unhide HMD _).mono ?_; rintro e w3 ⟨rfl, hb3⟩; exact ⟨rfl, hC.below hb3⟩)
                  | (obtain ⟨k0, k1, k2, k3⟩ := unhide HCE1 _ hC; go_simp; first | done | rfl))
              go_big_quiet_on)))
  refine wpQuiet_nil ?_
  intro w2 hC2
  have hR2 := (unhide HR).below hC2.bel
  have hP := hR2.put K V
  have hB := putN_below (Below.then (unhide HB0) hC2.bel) (show w.heap.size ≤ w.heap.size + 1 + 1 by omega) K V
  obtain ⟨q0, q1, q2, q3⟩ := hR2
  clear hC2 HX HCE HR HB0
  go_wp2
  show bodyPost _ _ _ _ _ (putN w2 (w.heap.size + 1 + 1) K V)
  generalize putN w2 (w.heap.size + 1 + 1) K V = X at hP hB ⊢
  obtain ⟨x0, x1, _, _⟩ := hP
  refine bodyPost_ret (v := .agg #[.int .i64 K, .int .i64 V]) ?_ rfl ⟨rfl, hB⟩
  simp [results, Tryz.results15, go_sem, x0, x1]
end Go.Proofs.YtnpdjddebeipiaaGreatDoor
