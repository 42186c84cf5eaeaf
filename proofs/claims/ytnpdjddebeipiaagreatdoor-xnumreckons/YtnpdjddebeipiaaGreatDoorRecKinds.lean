/- What is not finite: stencilref02's sign, Add, Mul, Div, Mod. -/
import Derived.Test.YtnpdjddebeipiaaGreatDoorRecMul
import Derived.Test.YtnpdjddebeipiaaGreatDoorGam
namespace Go.Proofs.YtnpdjddebeipiaaGreatDoor
open Go.RowKit
set_option maxHeartbeats 1000000 in
theorem finR_ex (v : Int) (w : World) :
    Calls Tryz.prog 39 #[.int .i64 v] w fun e w' => e = .returned (.agg #[.int .i64 0, .int .i64 v]) ∧ w' = w.alloc (.cells #[.int .i64 0, .int .i64 v] 24) := by
  go_enter Tryz.func39, Tryz.ntmps39
  go_wp2
  refine bodyPost_ret (v := .agg #[.int .i64 0, .int .i64 v]) (by simp [results, Tryz.results39, go_sem]) rfl ?_
  exact ⟨rfl, rfl⟩
set_option maxHeartbeats 1000000 in
theorem nanR_ex (w : World) :
    Calls Tryz.prog 32 #[] w fun e w' => e = .returned (.agg #[.int .i64 1, .int .i64 0]) ∧ w' = w.alloc (.cells #[.int .i64 1, .int .i64 0] 24) := by
  go_enter Tryz.func32, Tryz.ntmps32
  go_wp2
  refine bodyPost_ret (v := .agg #[.int .i64 1, .int .i64 0]) (by simp [results, Tryz.results32, go_sem]) rfl ?_
  exact ⟨rfl, rfl⟩
set_option maxHeartbeats 1000000 in
theorem infR_ex (b : Bool) (w : World) :
    Calls Tryz.prog 35 #[.bool b] w fun e w' => e = .returned (.agg #[.int .i64 (infK b), .int .i64 0]) ∧ w' = w.alloc (.cells #[.int .i64 (infK b), .int .i64 0] 24) := by
  cases b
  · go_enter Tryz.func35, Tryz.ntmps35
    go_wp2
    refine bodyPost_ret (v := .agg #[.int .i64 2, .int .i64 0]) (by simp [results, Tryz.results35, go_sem]) rfl ?_
    exact ⟨rfl, rfl⟩
  · go_enter Tryz.func35, Tryz.ntmps35
    go_wp2
    refine bodyPost_ret (v := .agg #[.int .i64 3, .int .i64 0]) (by simp [results, Tryz.results35, go_sem]) rfl ?_
    exact ⟨rfl, rfl⟩
set_option maxHeartbeats 1000000 in
/-- A right number's sign. -/
theorem refSign_inf (k v : Int) (w : World) (hk : k = 1 ∨ k = 2 ∨ k = 3) :
    Calls Tryz.prog 34 #[.agg #[.int .i64 k, .int .i64 v]] w fun e w' => e = .returned (.int .i64 (sgnN k v)) ∧ w' = w.alloc (.cells #[.int .i64 k, .int .i64 v] 24) := by
  rcases hk with rfl | rfl | rfl
  · have h : sgnN 1 v = 1 := by unfold sgnN; rw [if_neg (by omega), if_neg (by omega)]
    rw [h]
    go_enter Tryz.func34, Tryz.ntmps34
    go_wp2
    go_ret
    exact ⟨rfl, rfl⟩
  · have h : sgnN 2 v = 1 := by unfold sgnN; rw [if_neg (by omega), if_neg (by omega)]
    rw [h]
    go_enter Tryz.func34, Tryz.ntmps34
    go_wp2
    go_ret
    exact ⟨rfl, rfl⟩
  · have h : sgnN 3 v = -1 := by unfold sgnN; rw [if_pos (.inl rfl)]
    rw [h]
    go_enter Tryz.func34, Tryz.ntmps34
    go_wp2
    go_ret
    exact ⟨rfl, rfl⟩
theorem refSign_ex (v : Int) (w : World) :
    Calls Tryz.prog 34 #[.agg #[.int .i64 0, .int .i64 v]] w fun e w' => e = .returned (.int .i64 (sgnN 0 v)) ∧ w' = w.alloc (.cells #[.int .i64 0, .int .i64 v] 24) := by
  unfold sgnN
  by_cases h1 : v < 0
  · rw [if_pos (.inr ⟨rfl, h1⟩)]
    go_enter Tryz.func34, Tryz.ntmps34
    go_wp2
    go_ret
    exact ⟨rfl, rfl⟩
  · rw [if_neg (by rintro (h | ⟨_, h⟩); cases h; exact h1 h)]
    by_cases h2 : v = 0
    · subst h2
      go_enter Tryz.func34, Tryz.ntmps34
      go_wp2
      go_ret
      exact ⟨rfl, rfl⟩
    · rw [if_neg (fun h => h2 h.2)]
      have e2 : (v == 0) = false := by simpa using h2
      clear h2
      go_enter Tryz.func34, Tryz.ntmps34
      go_wp2
      go_ret
      exact ⟨rfl, rfl⟩
theorem refSign_right (k v : Int) (w : World) (hk : k = 0 ∨ k = 1 ∨ k = 2 ∨ k = 3) :
    Calls Tryz.prog 34 #[.agg #[.int .i64 k, .int .i64 v]] w fun e w' => e = .returned (.int .i64 (sgnN k v)) ∧ w' = w.alloc (.cells #[.int .i64 k, .int .i64 v] 24) := by
  rcases hk with rfl | hk
  · exact refSign_ex v w
  · exact refSign_inf k v w hk
/-- What is told of a world in which two numbers lie. -/
structure ClsN (X : World) (p q : Nat) (k v l u : Int) (w' : World) : Prop where
  bel : Below X.heap.size X w'
  a0 : w'.cell? ⟨p, 0, none⟩ = some (.int .i64 k)
  a1 : w'.cell? ⟨p, 1, none⟩ = some (.int .i64 v)
  b0 : w'.cell? ⟨q, 0, none⟩ = some (.int .i64 l)
  b1 : w'.cell? ⟨q, 1, none⟩ = some (.int .i64 u)
theorem ClsN.below {X w w' : World} {p q : Nat} {k v l u : Int} (h : ClsN X p q k v l u w) (hb : Below w.heap.size w w') : ClsN X p q k v l u w' :=
  ⟨Below.then h.bel hb, kept_cell hb h.a0, kept_cell hb h.a1, kept_cell hb h.b0, kept_cell hb h.b1⟩
def addK (k l : Int) : Int := if k = 1 ∨ l = 1 then 1 else if k ≠ 0 ∧ l ≠ 0 then (if k ≠ l then 1 else k) else if k ≠ 0 then k else l
set_option maxHeartbeats 4000000 in
theorem refAdd_not (k v l u : Int) (w : World) (hk : (k = 0 ∨ ((k = 1 ∨ k = 2 ∨ k = 3) ∧ v = 0))) (hl : (l = 0 ∨ ((l = 1 ∨ l = 2 ∨ l = 3) ∧ u = 0))) (h : ¬ (k = 0 ∧ l = 0)) :
    Calls Tryz.prog 11 #[.agg #[.int .i64 k, .int .i64 v], .agg #[.int .i64 l, .int .i64 u]] w fun e w' => e = .returned (.agg #[.int .i64 (addK k l), .int .i64 0]) ∧ Below w.heap.size w w' := by
  rcases hk with rfl | ⟨rfl | rfl | rfl, rfl⟩ <;> rcases hl with rfl | ⟨rfl | rfl | rfl, rfl⟩ <;> first | exact absurd ⟨rfl, rfl⟩ h | skip
  all_goals
    generalize hK : addK _ _ = K
    have HK := hide hK
    clear h hK
    go_enter Tryz.func11, Tryz.ntmps11
    go_wp2_with (go_at_call 32; refine (nanR_ex _).mono ?_; rintro e w' ⟨rfl, rfl⟩)
    refine bodyPost_ret (v := .agg #[.int .i64 K, .int .i64 0]) (by rw [← unhide HK]; simp [results, Tryz.results11, go_sem, addK]) rfl ⟨rfl, ?_⟩
    (repeat first | exact Below.refl _ _ | assumption | refine Below.drew ?_ | refine Below.alloc ?_ (by simp <;> omega) _ | refine Below.setCell ?_ (by simp <;> omega) _)
set_option maxHeartbeats 4000000 in
theorem refMul_nan (k v l u : Int) (w : World) (h : (k == 1) = true ∨ ((k == 1) = false ∧ (l == 1) = true)) :
    Calls Tryz.prog 13 #[.agg #[.int .i64 k, .int .i64 v], .agg #[.int .i64 l, .int .i64 u]] w fun e w' => e = .returned (.agg #[.int .i64 1, .int .i64 0]) ∧ Below w.heap.size w w' := by
  rcases h with h1 | ⟨h1, h2⟩
  all_goals
    go_enter Tryz.func13, Tryz.ntmps13
    go_wp2_with (go_at_call 32; refine (nanR_ex _).mono ?_; rintro e w' ⟨rfl, rfl⟩)
    refine bodyPost_ret (v := .agg #[.int .i64 1, .int .i64 0]) (by simp [results, Tryz.results13, go_sem]) rfl ⟨rfl, ?_⟩
    (repeat first | exact Below.refl _ _ | assumption | refine Below.drew ?_ | refine Below.alloc ?_ (by simp <;> omega) _ | refine Below.setCell ?_ (by simp <;> omega) _)
set_option maxRecDepth 100000 in
set_option maxHeartbeats 4000000 in
theorem refMul_not (k v l u : Int) (w : World) (hk : k = 0 ∨ k = 1 ∨ k = 2 ∨ k = 3) (hl : l = 0 ∨ l = 1 ∨ l = 2 ∨ l = 3) (h1 : (k == 1) = false) (h2 : (l == 1) = false) (h : (k != 0) = true ∨ ((k != 0) = false ∧ (l != 0) = true)) (za zb bb : Bool) (hza : (sgnN k v == 0) = za) (hzb : (sgnN l u == 0) = zb) (hbb : decide (wrap64 (sgnN k v * sgnN l u) < 0) = bb) :
    Calls Tryz.prog 13 #[.agg #[.int .i64 k, .int .i64 v], .agg #[.int .i64 l, .int .i64 u]] w fun e w' => e = .returned (.agg #[.int .i64 (if za || zb then 1 else infK bb), .int .i64 0]) ∧ Below w.heap.size w w' := by
  have HA := hide (fun w => refSign_right k v w hk)
  have HB := hide (fun w => refSign_right l u w hl)
  have HBB := hide hbb
  have HZA := hide hza
  have HZB := hide hzb
  have H := hide h
  clear hk hl hbb hza hzb h
  generalize hsa : sgnN k v = sa at *
  generalize hsb : sgnN l u = sb at *
  clear hsa hsb
  go_enter Tryz.func13, Tryz.ntmps13
  go_wp2_with fail
  have hb0 : Below w.heap.size w (((w.alloc (.cells #[.int .i64 k, .int .i64 v] 24)).alloc (.cells #[.int .i64 l, .int .i64 u] 24)).alloc (.cells #[.int .i64 0, .int .i64 0] 24)) := by
    (repeat first | exact Below.refl _ _ | assumption | refine Below.drew ?_ | refine Below.alloc ?_ (by simp <;> omega) _ | refine Below.setCell ?_ (by simp <;> omega) _)
  have hA : NumAt (((w.alloc (.cells #[.int .i64 k, .int .i64 v] 24)).alloc (.cells #[.int .i64 l, .int .i64 u] 24)).alloc (.cells #[.int .i64 0, .int .i64 0] 24)) w.heap.size k v := ⟨by simp [go_sem], by simp [go_sem], by simp [go_sem], by simp [go_sem]⟩
  have hB : NumAt (((w.alloc (.cells #[.int .i64 k, .int .i64 v] 24)).alloc (.cells #[.int .i64 l, .int .i64 u] 24)).alloc (.cells #[.int .i64 0, .int .i64 0] 24)) (w.heap.size + 1) l u := ⟨by simp [go_sem], by simp [go_sem], by simp [go_sem], by simp [go_sem]⟩
  have hR : NumAt (((w.alloc (.cells #[.int .i64 k, .int .i64 v] 24)).alloc (.cells #[.int .i64 l, .int .i64 u] 24)).alloc (.cells #[.int .i64 0, .int .i64 0] 24)) (w.heap.size + 1 + 1) 0 0 := ⟨by simp [go_sem], by simp [go_sem], by simp [go_sem], by simp [go_sem]⟩
  generalize (((w.alloc (.cells #[.int .i64 k, .int .i64 v] 24)).alloc (.cells #[.int .i64 l, .int .i64 u] 24)).alloc (.cells #[.int .i64 0, .int .i64 0] 24)) = W at hb0 hA hB hR ⊢
  have HR := hide hR
  have hC : ClsN W w.heap.size (w.heap.size + 1) k v l u W.drew := ⟨(Below.refl _ _).drew, hA.kind, hA.val, hB.kind, hB.val⟩
  have HB0 := hide hb0
  clear hA hB hR hb0
  refine wp_region_cls (ClsN W w.heap.size (w.heap.size + 1) k v l u) (by kernel_rfl) (by kernel_rfl) hC ?_
  repeat
    (first
      | go_big_quiet_skip
      | (go_big_quiet_want
         go_big_quiet_op
         first
           | go_big_quiet_on
           | (apply Exists.intro
              refine ⟨fun w' hC => ?_, ?_⟩
              · (first
                  | (go_at_call_of 34 (Value.agg #[Value.int IntKind.i64 k, Value.int IntKind.i64 v]); refine (unhide HA _).mono ?_; rintro e w3 ⟨rfl, rfl⟩; exact ⟨rfl, hC.below ((Below.refl _ _).alloc (Nat.le_refl _) _)⟩)
                  | (go_at_call 34; refine (unhide HB _).mono ?_; rintro e w3 ⟨rfl, rfl⟩; exact ⟨rfl, hC.below ((Below.refl _ _).alloc (Nat.le_refl _) _)⟩)
                  | (have c0 := hC.a0; have c1 := hC.a1; have c2 := hC.b0; have c3 := hC.b1; go_simp; first | done | rfl))
              go_big_quiet_on)))
  refine wpQuiet_nil ?_
  intro w2 hC2
  have HR2 := hide ((unhide HR).below hC2.bel)
  have HB2 := hide (Below.then (unhide HB0) hC2.bel)
  have c0 := hC2.a0
  have c1 := hC2.a1
  have c2 := hC2.b0
  have c3 := hC2.b1
  clear hC2 hC HR HB0
  have hbb := unhide HBB
  have e1 := unhide HZA
  have e2 := unhide HZB
  obtain ⟨r0, r1, r2, r3⟩ := unhide HR2
  have n2 : w.heap.size + 1 + 1 < w2.heap.size := block_lt_of_cell r0
  have n0 : w.heap.size < w2.heap.size := by omega
  have n1 : w.heap.size + 1 < w2.heap.size := by omega
  have n01 : w.heap.size < w2.heap.size + 1 := by omega
  have n02 : w.heap.size < w2.heap.size + 1 + 1 := by omega
  have n11 : w.heap.size + 1 < w2.heap.size + 1 := by omega
  have n12 : w.heap.size + 1 < w2.heap.size + 1 + 1 := by omega
  have n21 : w.heap.size + 1 + 1 < w2.heap.size + 1 := by omega
  have n22 : w.heap.size + 1 + 1 < w2.heap.size + 1 + 1 := by omega
  rcases unhide H with h | ⟨h, h'⟩
  all_goals
    cases za
    all_goals
      cases zb
      all_goals
        rw [unhide HBB]
        go_wp2_with (first | (go_at_call_of 34 (Value.agg #[Value.int IntKind.i64 k, Value.int IntKind.i64 v]); refine (unhide HA _).mono ?_; rintro e w' ⟨rfl, rfl⟩) | (go_at_call 34; refine (unhide HB _).mono ?_; rintro e w' ⟨rfl, rfl⟩) | (go_at_call 32; refine (nanR_ex _).mono ?_; rintro e w' ⟨rfl, rfl⟩) | (go_at_call 35; refine (infR_ex _ _).mono ?_; rintro e w' ⟨rfl, rfl⟩))
        have hB2 := unhide HB2
        first
          | refine bodyPost_ret (v := .agg #[.int .i64 (infK bb), .int .i64 0]) (by simp [results, Tryz.results13, go_sem, *]; done) rfl ⟨rfl, ?_⟩
          | refine bodyPost_ret (v := .agg #[.int .i64 1, .int .i64 0]) (by simp [results, Tryz.results13, go_sem, *]; done) rfl ⟨rfl, ?_⟩
        (repeat first | assumption | refine Below.drew ?_ | refine Below.setCell ?_ (by first | omega | (simp; omega) | (simp; done)) _ | refine Below.alloc ?_ (by first | omega | (simp; omega) | (simp; done)) _ | exact Below.refl _ _)
end Go.Proofs.YtnpdjddebeipiaaGreatDoor
