/- A number, less its rest, is a multiple of the other one: the law XnumRests. -/
import Derived.Test.YtigbaoadnonjfaaGreatDoorNumAdd
import Derived.Test.YtigbaoadnonjfaaGreatDoorNumCls
import Derived.Test.YtigbaoadnonjfaaGreatDoorNumKey
import Derived.Test.YtigbaoadnonjfaaGreatDoorNumLive
import Derived.WalkSmall
namespace Go.Proofs.YtigbaoadnonjfaaGreatDoor
open Go.RowKit
attribute [local go_sem ↓] Go.wp_at_zero Go.wp_at_succ
/-- The rest, in plain terms. -/
theorem rest_plain (v u : Int) (h1 : -1000000000000000000 ≤ v) (h2 : v ≤ 1000000000000000000) (h3 : -1000000000000000000 ≤ u) (h4 : u ≤ 1000000000000000000) (h0 : u ≠ 0) :
    signK (decide (v < 0)) (v.natAbs % u.natAbs) = 0 ∧ signN (decide (v < 0)) (v.natAbs % u.natAbs) = v.tmod u ∧ (v - v.tmod u).tmod u = 0 ∧ (v.tmod u).natAbs < u.natAbs ∧ (v.tmod u = 0 ∨ (v.tmod u < 0 ∧ v < 0) ∨ (0 < v.tmod u ∧ 0 < v)) ∧ (v.tmod u).natAbs ≤ v.natAbs := by
  have hn : v.natAbs % u.natAbs < u.natAbs := Nat.mod_lt _ (by omega)
  have hle : v.natAbs % u.natAbs ≤ v.natAbs := Nat.mod_le _ _
  have ht : (v.tmod u).natAbs = v.natAbs % u.natAbs := Int.natAbs_tmod v u
  have hv : v.tmod u = if v < 0 then -((v.natAbs % u.natAbs : Nat) : Int) else ((v.natAbs % u.natAbs : Nat) : Int) := by
    by_cases hneg : v < 0
    · rw [if_pos hneg]
      have := Int.tmod_nonneg u (show 0 ≤ -v by omega)
      rw [Int.neg_tmod] at this
      omega
    · rw [if_neg hneg]
      have := Int.tmod_nonneg u (show 0 ≤ v by omega)
      omega
  have hd : (v - v.tmod u).tmod u = 0 := by
    have : v - v.tmod u = u * v.tdiv u := by have := Int.tmod_add_mul_tdiv v u; omega
    rw [this]
    exact Int.mul_tmod_right u (v.tdiv u)
  refine ⟨?_, ?_, hd, by omega, ?_, by omega⟩
  · unfold signK
    rw [if_neg (by omega)]
  · unfold signN
    rw [if_neg (by omega), hv]
    by_cases hneg : v < 0 <;> simp [hneg]
  · by_cases hneg : v < 0
    · rw [if_pos hneg] at hv
      omega
    · rw [if_neg hneg] at hv
      omega
theorem diff_plain (v r : Int) (h1 : -1000000000000000000 ≤ v - r) (h2 : v - r ≤ 1000000000000000000) : signK (decide (v - r < 0)) (v - r).natAbs = 0 ∧ signN (decide (v - r < 0)) (v - r).natAbs = v - r := by
  unfold signK signN
  rw [if_neg (by omega), if_neg (by omega)]
  refine ⟨rfl, ?_⟩
  by_cases h : v - r < 0
  · simp [h]; omega
  · simp [h]; omega
set_option maxRecDepth 100000 in
set_option maxHeartbeats 400000 in
theorem rests_fin (v u : Int) (w : World) (hE : NumEnv w) (h1 : -1000000000000000000 ≤ v) (h2 : v ≤ 1000000000000000000) (h3 : -1000000000000000000 ≤ u) (h4 : u ≤ 1000000000000000000) (h0 : u ≠ 0) :
    Calls Tryz.prog 7 #[.agg #[.int .i64 0, .int .i64 v], .agg #[.int .i64 0, .int .i64 u]] w fun e w' => e = .returned (.bool true) ∧ Below w.heap.size w w' := by
  have HE := hide hE
  clear hE
  have hrb : (rightB 0 v && rightB 0 u) = true := by simp [rightB, h1, h2, h3, h4]
  obtain ⟨p1, p2, p3, p4, p5, p6⟩ := rest_plain v u h1 h2 h3 h4 h0
  have HM := hide (fun w => mod_fin v u w (by omega) (by omega) (by omega) (by omega) h0)
  rw [p1, p2] at HM
  have HT := hide p3
  clear p1 p2 p3
  generalize v.tmod u = r at *
  obtain ⟨d1, d2⟩ := diff_plain v r (by omega) (by omega)
  have HSB := hide (fun w => sub_fin v r w (by omega) (by omega) (by omega) (by omega))
  rw [d1, d2] at HSB
  clear d1 d2
  have hu0 : (u == 0) = false := by simpa using h0
  go_enter Tryz.func7, Tryz.ntmps7
  go_wp2_with fail
  refine (right_any 0 v 0 u _).mono ?_
  rintro e w1 ⟨rfl, hb1⟩
  rw [hrb]
  have hA : NumAt w1 w.heap.size 0 v := NumAt.below (w := ((w.alloc (.cells #[.int .i64 0, .int .i64 v] 24)).alloc (.cells #[.int .i64 0, .int .i64 u] 24))) ⟨by simp [go_sem], by simp [go_sem], by simp [go_sem], by simp [go_sem]⟩ hb1
  have hB : NumAt w1 (w.heap.size + 1) 0 u := NumAt.below (w := ((w.alloc (.cells #[.int .i64 0, .int .i64 v] 24)).alloc (.cells #[.int .i64 0, .int .i64 u] 24))) ⟨by simp [go_sem], by simp [go_sem], by simp [go_sem], by simp [go_sem]⟩ hb1
  have hb01 : Below w.heap.size w w1 := Below.then (by (repeat first | exact Below.refl _ _ | assumption | refine Below.drew ?_ | refine Below.alloc ?_ (by simp <;> omega) _ | refine Below.setCell ?_ (by simp <;> omega) _)) hb1
  clear hb1 hrb
  have HA := hide hA
  have HB := hide hB
  obtain ⟨a0, a1, _, _⟩ := hA
  obtain ⟨b0, b1, _, _⟩ := hB
  go_wp2_with fail
  refine (unhide HM _).mono ?_
  rintro e w2 ⟨rfl, hb2⟩
  have hA := (unhide HA).below hb2
  have hB := (unhide HB).below hb2
  have hb02 := Below.then hb01 hb2
  have hsz := hb02.size
  clear a0 a1 b0 b1 hb2 hb01 HM HA HB
  go_upto_region 4 with fail
  refine wp_named ?_
  intro W hW
  have hRW : NumAt W w2.heap.size 0 r := by
    rw [hW]; exact ⟨by simp [go_sem], by simp [go_sem], by simp [go_sem], by simp [go_sem]⟩
  have hAW : NumAt W w.heap.size 0 v := by
    rw [hW]; exact hA.below (by (repeat first | exact Below.refl _ _ | assumption | refine Below.drew ?_ | refine Below.alloc ?_ (by simp <;> omega) _ | refine Below.setCell ?_ (by simp <;> omega) _))
  have hBW : NumAt W (w.heap.size + 1) 0 u := by
    rw [hW]; exact hB.below (by (repeat first | exact Below.refl _ _ | assumption | refine Below.drew ?_ | refine Below.alloc ?_ (by simp <;> omega) _ | refine Below.setCell ?_ (by simp <;> omega) _))
  have hbW : Below w.heap.size w W := by
    rw [hW]; exact hb02.alloc hsz _
  clear hW hA hB hsz hb02
  have hC : Cls5 W w2.heap.size w.heap.size (w.heap.size + 1) r v u W.drew := ⟨(Below.refl _ _).drew, hRW.kind, hRW.val, hAW.kind, hAW.val, hBW.val⟩
  clear hRW hAW hBW
  have hT := unhide HT
  have hfd : ∀ (k x : Int) (w : World), (Instr.field 24 (.agg #[.int .i64 k, .int .i64 x]) 1).run Tryz.prog w = .ok (.int .i64 x) w := fun _ _ _ => by kernel_rfl
  rcases p5 with rfl | ⟨n1, n2⟩ | ⟨n1, n2⟩
  · rw [Int.sub_zero] at hT HSB
    refine wp_region_cls (Cls5 W w2.heap.size w.heap.size (w.heap.size + 1) _ v u) (by kernel_rfl) (by kernel_rfl) hC ?_
    repeat
      (first
        | go_big_quiet_skip
        | (go_big_quiet_want
           go_big_quiet_op
           first
             | go_big_quiet_on
             | (apply Exists.intro
                refine ⟨fun w' hC => ?_, ?_⟩
                · (first
                    | (go_at_call 25; refine (unhide HSB _).mono ?_; rintro e w3 ⟨rfl, hb3⟩; exact ⟨rfl, hC.below hb3⟩)
                    | (have c0 := hC.r0; have c1 := hC.r1; have c2 := hC.a0; have c3 := hC.a1; have c4 := hC.b1; go_simp; first | done | rfl))
                go_big_quiet_on)))
    refine wpQuiet_nil ?_
    intro w4 hC4
    clear hC HSB
    have c1 := hC4.r1
    have c4 := hC4.b1
    have hb4 := Below.then hbW hC4.bel
    clear hC4 hbW
    go_wp2_with fail
    go_quiet (fail)
    clear c1 c4
    have hb5 := below_drewN hb4 nq
    by_cases hun : u < 0
    · have hun' : u.natAbs = -u := by omega
      go_wp2_with fail
      refine (live_any _ ((unhide HE).below hb5)).mono ?_
      rintro e w6 ⟨rfl, hb6⟩
      go_wp2
      go_ret
      exact ⟨ret_bool (by simp <;> omega), Below.then hb5 hb6⟩
    · go_wp2_with fail
      refine (live_any _ ((unhide HE).below hb5)).mono ?_
      rintro e w6 ⟨rfl, hb6⟩
      go_wp2
      go_ret
      exact ⟨ret_bool (by simp <;> omega), Below.then hb5 hb6⟩
  · have hr0 : (r != 0) = true := by simpa using (show ¬ r = 0 by omega)
    refine wp_region_cls (Cls5 W w2.heap.size w.heap.size (w.heap.size + 1) _ v u) (by kernel_rfl) (by kernel_rfl) hC ?_
    repeat
      (first
        | go_big_quiet_skip
        | (go_big_quiet_want
           go_big_quiet_op
           first
             | go_big_quiet_on
             | (apply Exists.intro
                refine ⟨fun w' hC => ?_, ?_⟩
                · (first
                    | (go_at_call 25; refine (unhide HSB _).mono ?_; rintro e w3 ⟨rfl, hb3⟩; exact ⟨rfl, hC.below hb3⟩)
                    | (have c0 := hC.r0; have c1 := hC.r1; have c2 := hC.a0; have c3 := hC.a1; have c4 := hC.b1; go_simp; first | done | rfl))
                go_big_quiet_on)))
    refine wpQuiet_nil ?_
    intro w4 hC4
    clear hC HSB
    have c1 := hC4.r1
    have c4 := hC4.b1
    have hb4 := Below.then hbW hC4.bel
    clear hC4 hbW
    go_wp2_with fail
    go_quiet (fail)
    clear c1 c4
    have hb5 := below_drewN hb4 nq
    by_cases hun : u < 0
    · have hun' : u.natAbs = -u := by omega
      go_wp2_with fail
      refine (live_any _ ((unhide HE).below hb5)).mono ?_
      rintro e w6 ⟨rfl, hb6⟩
      go_wp2
      go_ret
      exact ⟨ret_bool (by simp <;> omega), Below.then hb5 hb6⟩
    · go_wp2_with fail
      refine (live_any _ ((unhide HE).below hb5)).mono ?_
      rintro e w6 ⟨rfl, hb6⟩
      go_wp2
      go_ret
      exact ⟨ret_bool (by simp <;> omega), Below.then hb5 hb6⟩
  · have hr0 : (r != 0) = true := by simpa using (show ¬ r = 0 by omega)
    have hnr : ¬ r < 0 := by omega
    have hnv : ¬ v < 0 := by omega
    refine wp_region_cls (Cls5 W w2.heap.size w.heap.size (w.heap.size + 1) _ v u) (by kernel_rfl) (by kernel_rfl) hC ?_
    repeat
      (first
        | go_big_quiet_skip
        | (go_big_quiet_want
           go_big_quiet_op
           first
             | go_big_quiet_on
             | (apply Exists.intro
                refine ⟨fun w' hC => ?_, ?_⟩
                · (first
                    | (go_at_call 25; refine (unhide HSB _).mono ?_; rintro e w3 ⟨rfl, hb3⟩; exact ⟨rfl, hC.below hb3⟩)
                    | (have c0 := hC.r0; have c1 := hC.r1; have c2 := hC.a0; have c3 := hC.a1; have c4 := hC.b1; go_simp; first | done | rfl))
                go_big_quiet_on)))
    refine wpQuiet_nil ?_
    intro w4 hC4
    clear hC HSB
    have c1 := hC4.r1
    have c4 := hC4.b1
    have hb4 := Below.then hbW hC4.bel
    clear hC4 hbW
    go_wp2_with fail
    go_quiet (fail)
    clear c1 c4
    have hb5 := below_drewN hb4 nq
    by_cases hun : u < 0
    · have hun' : u.natAbs = -u := by omega
      go_wp2_with fail
      refine (live_any _ ((unhide HE).below hb5)).mono ?_
      rintro e w6 ⟨rfl, hb6⟩
      go_wp2
      go_ret
      exact ⟨ret_bool (by simp <;> omega), Below.then hb5 hb6⟩
    · go_wp2_with fail
      refine (live_any _ ((unhide HE).below hb5)).mono ?_
      rintro e w6 ⟨rfl, hb6⟩
      go_wp2
      go_ret
      exact ⟨ret_bool (by simp <;> omega), Below.then hb5 hb6⟩
set_option maxRecDepth 100000 in
set_option maxHeartbeats 1000000 in
theorem rests_not (k v l u : Int) (w : World) (hE : NumEnv w) (h : ((rightB k v && rightB l u) = false) ∨ ((rightB k v && rightB l u) = true ∧ (k != 0) = true) ∨ ((rightB k v && rightB l u) = true ∧ k = 0 ∧ (l != 0) = true) ∨ ((rightB k v && rightB l u) = true ∧ k = 0 ∧ l = 0 ∧ u = 0)) :
    Calls Tryz.prog 7 #[.agg #[.int .i64 k, .int .i64 v], .agg #[.int .i64 l, .int .i64 u]] w fun e w' => e = .returned (.bool true) ∧ Below w.heap.size w w' := by
  have HE := hide hE
  clear hE
  rcases h with h | ⟨h, h1⟩ | ⟨h, rfl, h1⟩ | ⟨h, rfl, rfl, rfl⟩
  all_goals
    go_enter Tryz.func7, Tryz.ntmps7
    go_wp2_with fail
    refine (right_any _ _ _ _ _).mono ?_
    rintro e w1 ⟨rfl, hb1⟩
    rw [h]
    have hA := NumAt.below (b := w.heap.size) ⟨by simp [go_sem]; rfl, by simp [go_sem]; rfl, by simp [go_sem], by simp [go_sem]⟩ hb1
    have hB := NumAt.below (b := w.heap.size + 1) ⟨by simp [go_sem]; rfl, by simp [go_sem]; rfl, by simp [go_sem], by simp [go_sem]⟩ hb1
    have hb01 : Below w.heap.size w w1 := Below.then (by (repeat first | exact Below.refl _ _ | assumption | refine Below.drew ?_ | refine Below.alloc ?_ (by simp <;> omega) _ | refine Below.setCell ?_ (by simp <;> omega) _)) hb1
    obtain ⟨a0, a1, _, _⟩ := hA
    obtain ⟨b0, b1, _, _⟩ := hB
    go_wp2_with fail
    refine (live_any _ ((unhide HE).below hb01)).mono ?_
    rintro e w6 ⟨rfl, hb6⟩
    go_wp2
    go_ret
    exact ⟨rfl, Below.then hb01 hb6⟩
theorem rests_walk (k v l u : Int) (w : World) (hE : NumEnv w) :
    Calls Tryz.prog 7 #[.agg #[.int .i64 k, .int .i64 v], .agg #[.int .i64 l, .int .i64 u]] w fun e w' => e = .returned (.bool true) ∧ Below w.heap.size w w' := by
  cases hr : (rightB k v && rightB l u)
  · exact rests_not k v l u w hE (.inl hr)
  · by_cases hk : k = 0
    · by_cases hl : l = 0
      · by_cases hu : u = 0
        · exact rests_not k v l u w hE (.inr (.inr (.inr ⟨hr, hk, hl, hu⟩)))
        · subst hk hl
          have hr' : rightB 0 v = true ∧ rightB 0 u = true := by simpa using hr
          have hv : -1000000000000000000 ≤ v ∧ v ≤ 1000000000000000000 := by
            rcases right_cases hr'.1 with h | h | h | h
            · exact h.2
            · cases h.1
            · cases h.1
            · cases h.1
          have hu' : -1000000000000000000 ≤ u ∧ u ≤ 1000000000000000000 := by
            rcases right_cases hr'.2 with h | h | h | h
            · exact h.2
            · cases h.1
            · cases h.1
            · cases h.1
          exact rests_fin v u w hE hv.1 hv.2 hu'.1 hu'.2 hu
      · exact rests_not k v l u w hE (.inr (.inr (.inl ⟨hr, hk, by simpa using hl⟩)))
    · exact rests_not k v l u w hE (.inr (.inl ⟨hr, by simpa using hk⟩))
end Go.Proofs.YtigbaoadnonjfaaGreatDoor
