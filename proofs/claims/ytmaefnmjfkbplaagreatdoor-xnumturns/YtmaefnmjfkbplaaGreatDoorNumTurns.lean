/- Sums and products do not hang on the order: the law XnumTurns. -/
import Derived.Test.YtmaefnmjfkbplaaGreatDoorNumMul
import Derived.Test.YtmaefnmjfkbplaaGreatDoorNumCls
import Derived.Test.YtmaefnmjfkbplaaGreatDoorNumLive
import Derived.WalkSmall
namespace Go.Proofs.YtmaefnmjfkbplaaGreatDoor
open Go.RowKit
attribute [local go_sem ↓] Go.wp_at_zero Go.wp_at_succ
/-- Worlds in which three numbers' variables stand. -/
structure Cls6 (X : World) (p q s : Nat) (K U k v l u : Int) (w' : World) : Prop where
  bel : Below X.heap.size X w'
  r0 : w'.cell? ⟨p, 0, none⟩ = some (.int .i64 K)
  r1 : w'.cell? ⟨p, 1, none⟩ = some (.int .i64 U)
  a0 : w'.cell? ⟨q, 0, none⟩ = some (.int .i64 k)
  a1 : w'.cell? ⟨q, 1, none⟩ = some (.int .i64 v)
  b0 : w'.cell? ⟨s, 0, none⟩ = some (.int .i64 l)
  b1 : w'.cell? ⟨s, 1, none⟩ = some (.int .i64 u)
theorem Cls6.below {X w w' : World} {p q s : Nat} {K U k v l u : Int} (h : Cls6 X p q s K U k v l u w) (hb : Below w.heap.size w w') : Cls6 X p q s K U k v l u w' :=
  ⟨Below.then h.bel hb, kept_cell hb h.r0, kept_cell hb h.r1, kept_cell hb h.a0, kept_cell hb h.a1, kept_cell hb h.b0, kept_cell hb h.b1⟩
/-- What Sub, Neg and Add tell of Fin numbers whose sum is Fin. -/
structure TurnsFin (v u U : Int) : Prop where
  sub : ∀ w, Calls Tryz.prog 7 #[.agg #[.int .i64 0, .int .i64 U], .agg #[.int .i64 0, .int .i64 u]] w fun e w' => e = .returned (.agg #[.int .i64 0, .int .i64 v]) ∧ Below w.heap.size w w'
  neg : ∀ w, Calls Tryz.prog 18 #[.agg #[.int .i64 0, .int .i64 v]] w fun e w' => e = .returned (.agg #[.int .i64 0, .int .i64 (-v)]) ∧ Below w.heap.size w w'
  neg2 : ∀ w, Calls Tryz.prog 18 #[.agg #[.int .i64 0, .int .i64 (-v)]] w fun e w' => e = .returned (.agg #[.int .i64 0, .int .i64 v]) ∧ Below w.heap.size w w'
  add : ∀ w, Calls Tryz.prog 6 #[.agg #[.int .i64 0, .int .i64 v], .agg #[.int .i64 0, .int .i64 (-v)]] w fun e w' => e = .returned (.agg #[.int .i64 0, .int .i64 0]) ∧ Below w.heap.size w w'
  int : ∀ w, Calls Tryz.prog 25 #[.int .i64 0] w fun e w' => e = .returned (.agg #[.int .i64 0, .int .i64 0]) ∧ Below w.heap.size w w'
set_option maxRecDepth 100000 in
set_option maxHeartbeats 1000000 in
theorem turns_not (k v l u : Int) (w : World) (hE : NumEnv w) (h : (rightB k v && rightB l u) = false) :
    Calls Tryz.prog 5 #[.agg #[.int .i64 k, .int .i64 v], .agg #[.int .i64 l, .int .i64 u]] w fun e w' => e = .returned (.bool true) ∧ Below w.heap.size w w' := by
  have HE := hide hE
  clear hE
  go_enter Tryz.func5, Tryz.ntmps5
  go_wp2_with fail
  refine (right_any _ _ _ _ _).mono ?_
  rintro e w1 ⟨rfl, hb1⟩
  rw [h]
  have hb01 : Below w.heap.size w w1 := Below.then (by (repeat first | exact Below.refl _ _ | assumption | refine Below.drew ?_ | refine Below.alloc ?_ (by simp <;> omega) _ | refine Below.setCell ?_ (by simp <;> omega) _)) hb1
  go_wp2_with fail
  refine (live_any _ ((unhide HE).below hb01)).mono ?_
  rintro e w6 ⟨rfl, hb6⟩
  go_wp2
  go_ret
  exact ⟨rfl, Below.then hb01 hb6⟩
set_option maxRecDepth 100000 in
set_option maxHeartbeats 2000000 in
theorem turns_walk1 (k v l u K U P Q : Int) (w : World) (hE : NumEnv w) (hr : (rightB k v && rightB l u) = true) (h : (k != 0) = true ∨ (k = 0 ∧ (l != 0) = true) ∨ (k = 0 ∧ l = 0 ∧ (K != 0) = true) ∨ (k = 0 ∧ l = 0 ∧ K = 0 ∧ TurnsFin v u U))
    (hA1 : ∀ w, Calls Tryz.prog 6 #[.agg #[.int .i64 k, .int .i64 v], .agg #[.int .i64 l, .int .i64 u]] w fun e w' => e = .returned (.agg #[.int .i64 K, .int .i64 U]) ∧ Below w.heap.size w w')
    (hA2 : ∀ w, Calls Tryz.prog 6 #[.agg #[.int .i64 l, .int .i64 u], .agg #[.int .i64 k, .int .i64 v]] w fun e w' => e = .returned (.agg #[.int .i64 K, .int .i64 U]) ∧ Below w.heap.size w w')
    (hM : ∀ a b, (a = .agg #[.int .i64 k, .int .i64 v] ∧ b = .agg #[.int .i64 l, .int .i64 u]) ∨ (b = .agg #[.int .i64 k, .int .i64 v] ∧ a = .agg #[.int .i64 l, .int .i64 u]) → ∀ w, Calls Tryz.prog 8 #[a, b] w fun e w' => e = .returned (.agg #[.int .i64 P, .int .i64 Q]) ∧ Below w.heap.size w w') :
    Calls Tryz.prog 5 #[.agg #[.int .i64 k, .int .i64 v], .agg #[.int .i64 l, .int .i64 u]] w fun e w' => e = .returned (.bool true) ∧ Below w.heap.size w w' := by
  have HE := hide hE
  have HA1 := hide hA1
  have HA2 := hide hA2
  have HM := hide hM
  clear hE hA1 hA2 hM
  go_enter Tryz.func5, Tryz.ntmps5
  go_wp2_with fail
  refine (right_any _ _ _ _ _).mono ?_
  rintro e w1 ⟨rfl, hb1⟩
  rw [hr]
  have hA : NumAt w1 w.heap.size k v := NumAt.below (w := ((w.alloc (.cells #[.int .i64 k, .int .i64 v] 24)).alloc (.cells #[.int .i64 l, .int .i64 u] 24))) ⟨by simp [go_sem], by simp [go_sem], by simp [go_sem], by simp [go_sem]⟩ hb1
  have hB : NumAt w1 (w.heap.size + 1) l u := NumAt.below (w := ((w.alloc (.cells #[.int .i64 k, .int .i64 v] 24)).alloc (.cells #[.int .i64 l, .int .i64 u] 24))) ⟨by simp [go_sem], by simp [go_sem], by simp [go_sem], by simp [go_sem]⟩ hb1
  have hb01 : Below w.heap.size w w1 := Below.then (by (repeat first | exact Below.refl _ _ | assumption | refine Below.drew ?_ | refine Below.alloc ?_ (by simp <;> omega) _ | refine Below.setCell ?_ (by simp <;> omega) _)) hb1
  clear hb1 hr
  have HA := hide hA
  have HB := hide hB
  obtain ⟨a0, a1, _, _⟩ := hA
  obtain ⟨b0, b1, _, _⟩ := hB
  go_wp2_with fail
  refine (unhide HA1 _).mono ?_
  rintro e w2 ⟨rfl, hb2⟩
  have hA := (unhide HA).below hb2
  have hB := (unhide HB).below hb2
  have hb02 := Below.then hb01 hb2
  have hsz := hb02.size
  clear a0 a1 b0 b1 hb2 hb01 HA1 HA HB
  go_upto_region 4 with fail
  refine wp_named ?_
  intro W hW
  have hRW : NumAt W w2.heap.size K U := by
    rw [hW]; exact ⟨by simp [go_sem], by simp [go_sem], by simp [go_sem], by simp [go_sem]⟩
  have hAW : NumAt W w.heap.size k v := by
    rw [hW]; exact hA.below (by (repeat first | exact Below.refl _ _ | assumption | refine Below.drew ?_ | refine Below.alloc ?_ (by simp <;> omega) _ | refine Below.setCell ?_ (by simp <;> omega) _))
  have hBW : NumAt W (w.heap.size + 1) l u := by
    rw [hW]; exact hB.below (by (repeat first | exact Below.refl _ _ | assumption | refine Below.drew ?_ | refine Below.alloc ?_ (by simp <;> omega) _ | refine Below.setCell ?_ (by simp <;> omega) _))
  have hbW : Below w.heap.size w W := by
    rw [hW]; exact hb02.alloc hsz _
  clear hW hA hB hsz hb02
  have hC : Cls6 W w2.heap.size w.heap.size (w.heap.size + 1) K U k v l u W.drew := ⟨(Below.refl _ _).drew, hRW.kind, hRW.val, hAW.kind, hAW.val, hBW.kind, hBW.val⟩
  clear hRW hAW hBW
  refine wp_region_cls (Cls6 W w2.heap.size w.heap.size (w.heap.size + 1) K U k v l u) (by kernel_rfl) (by kernel_rfl) hC ?_
  repeat
    (first
      | go_big_quiet_skip
      | (go_big_quiet_want
         go_big_quiet_op
         first
           | go_big_quiet_on
           | (apply Exists.intro
              refine ⟨fun w' hC => ?_, ?_⟩
              · (first
                  | (go_at_call 6; refine (unhide HA2 _).mono ?_; rintro e w3 ⟨rfl, hb3⟩; exact ⟨rfl, hC.below hb3⟩)
                  | (go_at_call 8; refine (unhide HM _ _ (by first | exact .inl ⟨rfl, rfl⟩ | exact .inr ⟨rfl, rfl⟩) _).mono ?_; rintro e w3 ⟨rfl, hb3⟩; exact ⟨rfl, hC.below hb3⟩)
                  | (have c0 := hC.r0; have c1 := hC.r1; have c2 := hC.a0; have c3 := hC.a1; have c4 := hC.b0; have c5 := hC.b1; go_simp; first | done | rfl))
              go_big_quiet_on)))
  refine wpQuiet_nil ?_
  intro w4 hC4
  clear hC
  have hb4 := Below.then hbW hC4.bel
  have c0 := hC4.r0
  have c2 := hC4.a0
  have c4 := hC4.b0
  clear HA2 HM
  rcases h with h | ⟨rfl, h⟩ | ⟨rfl, rfl, h⟩ | ⟨rfl, rfl, rfl, hF⟩
  · go_wp2_with fail
    refine (live_any _ ((unhide HE).below hb4)).mono ?_
    rintro e w6 ⟨rfl, hb6⟩
    go_wp2
    go_ret
    exact ⟨rfl, Below.then hb4 hb6⟩
  · go_wp2_with fail
    refine (live_any _ ((unhide HE).below hb4)).mono ?_
    rintro e w6 ⟨rfl, hb6⟩
    go_wp2
    go_ret
    exact ⟨rfl, Below.then hb4 hb6⟩
  · go_wp2_with fail
    refine (live_any _ ((unhide HE).below hb4)).mono ?_
    rintro e w6 ⟨rfl, hb6⟩
    go_wp2
    go_ret
    exact ⟨rfl, Below.then hb4 hb6⟩
  · have HF := hide hF
    clear hF
    go_wp2_with fail
    clear c0 c2 c4
    have HB4 := hide hb4
    clear hb4
    have hC : Cls6 W w2.heap.size w.heap.size (w.heap.size + 1) 0 U 0 v 0 u w4.drew := hC4.below ((Below.refl _ _).drew)
    refine wp_region_cls (Cls6 W w2.heap.size w.heap.size (w.heap.size + 1) 0 U 0 v 0 u) (by kernel_rfl) (by kernel_rfl) hC ?_
    repeat
      (first
        | go_big_quiet_skip
        | (go_big_quiet_want
           go_big_quiet_op
           first
             | go_big_quiet_on
             | (apply Exists.intro
                refine ⟨fun w' hC => ?_, ?_⟩
                · (first
                    | (go_at_call 12; refine (live_any _ ((unhide HE).below (Below.then hbW hC.bel))).mono ?_; rintro e w3 ⟨rfl, hb3⟩; exact ⟨rfl, hC.below hb3⟩)
                    | (go_at_call 7; refine ((unhide HF).sub _).mono ?_; rintro e w3 ⟨rfl, hb3⟩; exact ⟨rfl, hC.below hb3⟩)
                    | (go_at_call_of 18 (Value.agg #[Value.int IntKind.i64 0, Value.int IntKind.i64 (-v)]); refine ((unhide HF).neg2 _).mono ?_; rintro e w3 ⟨rfl, hb3⟩; exact ⟨rfl, hC.below hb3⟩)
                    | (go_at_call 18; refine ((unhide HF).neg _).mono ?_; rintro e w3 ⟨rfl, hb3⟩; exact ⟨rfl, hC.below hb3⟩)
                    | (go_at_call 6; refine ((unhide HF).add _).mono ?_; rintro e w3 ⟨rfl, hb3⟩; exact ⟨rfl, hC.below hb3⟩)
                    | (go_at_call 25; refine ((unhide HF).int _).mono ?_; rintro e w3 ⟨rfl, hb3⟩; exact ⟨rfl, hC.below hb3⟩)
                    | (have c0 := hC.r0; have c1 := hC.r1; have c2 := hC.a0; have c3 := hC.a1; have c4 := hC.b0; have c5 := hC.b1; go_simp; first | done | rfl))
                go_big_quiet_on)))
    refine wpQuiet_nil ?_
    intro w5 hC5
    have hb5 := Below.then hbW hC5.bel
    clear hC hC4 hC5 HB4
    go_wp2
    go_ret
    exact ⟨rfl, hb5⟩
theorem turns_fin (v u : Int) (h1 : -1000000000000000000 ≤ v) (h2 : v ≤ 1000000000000000000) (h3 : -1000000000000000000 ≤ u) (h4 : u ≤ 1000000000000000000) (hK : signK (decide (v + u < 0)) (v + u).natAbs = 0) : TurnsFin v u (signN (decide (v + u < 0)) (v + u).natAbs) := by
  have hs : signN (decide (v + u < 0)) (v + u).natAbs = v + u ∧ -1000000000000000000 ≤ v + u ∧ v + u ≤ 1000000000000000000 := by
    unfold signK at hK
    unfold signN
    by_cases hg : 1000000000000000000 < (v + u).natAbs
    · rw [if_pos hg] at hK
      unfold infK at hK
      split at hK <;> simp at hK
    · rw [if_neg hg]
      refine ⟨?_, by omega, by omega⟩
      by_cases hn : v + u < 0
      · simp [hn]; omega
      · simp [hn]; omega
  obtain ⟨e1, s1, s2⟩ := hs
  rw [e1]
  refine ⟨fun w => ?_, fun w => ?_, fun w => ?_, fun w => ?_, fun w => ?_⟩
  · have := sub_fin (v + u) u w (by omega) (by omega) (by omega) (by omega)
    have e2 : v + u - u = v := by omega
    have e3 : signK (decide (v < 0)) v.natAbs = 0 ∧ signN (decide (v < 0)) v.natAbs = v := by
      unfold signK signN
      rw [if_neg (by omega), if_neg (by omega)]
      refine ⟨rfl, ?_⟩
      by_cases hn : v < 0
      · simp [hn]; omega
      · simp [hn]; omega
    rw [e2, e3.1, e3.2] at this
    exact this
  · have := neg_any 0 v w
    simp only [negK, negV, if_neg (show ¬ (0 : Int) = 1 by decide), if_neg (show ¬ (0 : Int) = 2 by decide), if_neg (show ¬ (0 : Int) = 3 by decide)] at this
    rw [show wrap64 (-v) = -v by unfold wrap64; omega] at this
    exact this
  · have := neg_any 0 (-v) w
    simp only [negK, negV, if_neg (show ¬ (0 : Int) = 1 by decide), if_neg (show ¬ (0 : Int) = 2 by decide), if_neg (show ¬ (0 : Int) = 3 by decide)] at this
    rw [show wrap64 (- -v) = v by unfold wrap64; omega] at this
    exact this
  · have := add_fin v (-v) w (by omega) (by omega)
    rw [show v + -v = 0 by omega] at this
    exact this
  · exact int_any 0 w (by decide) (by decide)
theorem turns_walk (k v l u : Int) (w : World) (hE : NumEnv w) :
    Calls Tryz.prog 5 #[.agg #[.int .i64 k, .int .i64 v], .agg #[.int .i64 l, .int .i64 u]] w fun e w' => e = .returned (.bool true) ∧ Below w.heap.size w w' := by
  cases hr : (rightB k v && rightB l u)
  · exact turns_not k v l u w hE hr
  · have hr' : rightB k v = true ∧ rightB l u = true := by simpa using hr
    obtain ⟨K, U, hA1, hA2, hF⟩ := add_both k v l u hr'.1 hr'.2
    obtain ⟨P, Q, hM1, hM2⟩ := mul_both k v l u hr'.1 hr'.2
    refine turns_walk1 k v l u K U P Q w hE hr ?_ hA1 hA2 ?_
    · by_cases hk : k = 0
      · by_cases hl : l = 0
        · by_cases hK : K = 0
          · obtain ⟨f1, f2⟩ := hF hk hl
            subst hk hl
            have hv : -1000000000000000000 ≤ v ∧ v ≤ 1000000000000000000 := by
              rcases right_cases hr'.1 with h | h | h | h
              · exact h.2
              · cases h.1
              · cases h.1
              · cases h.1
            have hu : -1000000000000000000 ≤ u ∧ u ≤ 1000000000000000000 := by
              rcases right_cases hr'.2 with h | h | h | h
              · exact h.2
              · cases h.1
              · cases h.1
              · cases h.1
            refine .inr (.inr (.inr ⟨rfl, rfl, hK, ?_⟩))
            rw [f2]
            exact turns_fin v u hv.1 hv.2 hu.1 hu.2 (by rw [← f1]; exact hK)
          · exact .inr (.inr (.inl ⟨hk, hl, by simpa using hK⟩))
        · exact .inr (.inl ⟨hk, by simpa using hl⟩)
      · exact .inl (by simpa using hk)
    · rintro a b (⟨rfl, rfl⟩ | ⟨rfl, rfl⟩) w
      · exact hM1 w
      · exact hM2 w
end Go.Proofs.YtmaefnmjfkbplaaGreatDoor
