/- The program's sums, differences, products, quotients and rests are the reference's. -/
import Derived.Test.YtnpdjddebeipiaaGreatDoorRecDiv
import Derived.Test.YtnpdjddebeipiaaGreatDoorNumGen
import Derived.Test.YtnpdjddebeipiaaGreatDoorNumGen2
import Derived.Test.YtnpdjddebeipiaaGreatDoorNumGen3
import Derived.Test.YtnpdjddebeipiaaGreatDoorNumRefW
namespace Go.Proofs.YtnpdjddebeipiaaGreatDoor
open Go.RowKit
/-- A function of two numbers tells a number. -/
def Op2 (f : Nat) (k v l u K U : Int) : Prop := ∀ w : World, Calls Tryz.prog f #[.agg #[.int .i64 k, .int .i64 v], .agg #[.int .i64 l, .int .i64 u]] w fun e w' => e = .returned (.agg #[.int .i64 K, .int .i64 U]) ∧ Below w.heap.size w w'
theorem sign_alike (b b' : Bool) (n m : Nat) (h : (n = m ∧ (b = b' ∨ n = 0)) ∨ (b = b' ∧ 1000000000000000000 < n ∧ 1000000000000000000 < m)) : signK b n = signK b' m ∧ signN b n = signN b' m := by
  rcases h with ⟨rfl, rfl | rfl⟩ | ⟨rfl, h1, h2⟩
  · exact ⟨rfl, rfl⟩
  · cases b <;> cases b' <;> exact ⟨rfl, rfl⟩
  · unfold signK signN
    rw [if_pos h1, if_pos h2, if_pos h1, if_pos h2]
    exact ⟨rfl, rfl⟩
theorem right_kinds {k v : Int} (h : rightB k v = true) : k = 0 ∨ k = 1 ∨ k = 2 ∨ k = 3 := by
  rcases right_cases h with h | h | h | h
  · exact .inl h.1
  · exact .inr (.inl h.1)
  · exact .inr (.inr (.inl h.1))
  · exact .inr (.inr (.inr h.1))
theorem right_fin {k v : Int} (h : rightB k v = true) (h1 : (k == 1) = false) (hi : infB k = false) : k = 0 ∧ -1000000000000000000 ≤ v ∧ v ≤ 1000000000000000000 := by
  rcases right_cases h with h | ⟨rfl, _⟩ | ⟨rfl, _⟩ | ⟨rfl, _⟩
  · exact h
  · cases h1
  · cases hi
  · cases hi
def padK (k v l u : Int) : Int := if (k == 1 || l == 1) then 1 else if (infB k && infB l) then (if (k != l) then 1 else infK (belowB k v)) else if infB k then infK (belowB k v) else infK (belowB l u)
theorem add_two (k v l u : Int) : ∃ K U, Op2 4 k v l u K U ∧ (rightB k v = true → rightB l u = true → Op2 11 k v l u K U) := by
  by_cases hc : (k == 1 || l == 1 || infB k || infB l) = true
  · refine ⟨padK k v l u, 0, fun w => add_not k v l u _ w ?_, fun hk hl w => ?_⟩
    · unfold padK
      generalize infK (belowB k v) = X
      generalize infK (belowB l u) = Y
      cases h1 : (k == 1) <;> cases h2 : (l == 1) <;> cases h3 : infB k <;> cases h4 : infB l <;> cases h5 : (k != l) <;> simp_all
    · have hn : ¬ (k = 0 ∧ l = 0) := by
        rintro ⟨rfl, rfl⟩
        simp [infB] at hc
      have e : addK k l = padK k v l u := by
        rcases right_cases hk with ⟨rfl, _⟩ | ⟨rfl, rfl⟩ | ⟨rfl, rfl⟩ | ⟨rfl, rfl⟩ <;> rcases right_cases hl with ⟨rfl, _⟩ | ⟨rfl, rfl⟩ | ⟨rfl, rfl⟩ | ⟨rfl, rfl⟩ <;> first | exact absurd ⟨rfl, rfl⟩ hn | (simp [addK, padK, infB, infK, belowB]; done)
      rw [← e]
      refine refAdd_not k v l u w ?_ ?_ hn
      · rcases right_cases hk with h | h | h | h
        · exact .inl h.1
        · exact .inr ⟨.inl h.1, h.2⟩
        · exact .inr ⟨.inr (.inl h.1), h.2⟩
        · exact .inr ⟨.inr (.inr h.1), h.2⟩
      · rcases right_cases hl with h | h | h | h
        · exact .inl h.1
        · exact .inr ⟨.inl h.1, h.2⟩
        · exact .inr ⟨.inr (.inl h.1), h.2⟩
        · exact .inr ⟨.inr (.inr h.1), h.2⟩
  · have hc' : (k == 1) = false ∧ (l == 1) = false ∧ infB k = false ∧ infB l = false := by
      cases h1 : (k == 1) <;> cases h2 : (l == 1) <;> cases h3 : infB k <;> cases h4 : infB l <;> simp_all
    obtain ⟨h1, h2, h3, h4⟩ := hc'
    have hw : -9223372036854775808 ≤ wrap64 (v + u) ∧ wrap64 (v + u) ≤ 9223372036854775807 := by unfold wrap64; omega
    refine ⟨_, _, fun w => add_gen k v l u (wrap64 (v + u)) w h1 h2 h3 h4 hw.1 hw.2 rfl, fun hk hl w => ?_⟩
    obtain ⟨rfl, a1, a2⟩ := right_fin hk h1 h3
    obtain ⟨rfl, b1, b2⟩ := right_fin hl h2 h4
    have e : wrap64 (v + u) = v + u := by unfold wrap64; omega
    rw [e]
    exact refAdd_fin v u w a1 a2 b1 b2
theorem sgn_below (v : Int) : decide (sgnN 0 v < 0) = belowB 0 v := by
  unfold sgnN belowB
  by_cases h : v < 0
  · rw [if_pos (.inr ⟨rfl, h⟩)]
    simp [h]
  · rw [if_neg (by rintro (h' | ⟨_, h'⟩); cases h'; exact h h')]
    by_cases h2 : v = 0
    · rw [if_pos ⟨rfl, h2⟩]
      simp [h]
    · rw [if_neg (fun h' => h2 h'.2)]
      simp [h]
theorem sgn_zero (v : Int) : (sgnN 0 v == 0) = (v == 0) := by
  unfold sgnN
  by_cases h : v < 0
  · rw [if_pos (.inr ⟨rfl, h⟩)]
    have : (v == 0) = false := by simp; omega
    rw [this]
    rfl
  · rw [if_neg (by rintro (h' | ⟨_, h'⟩); cases h'; exact h h')]
    by_cases h2 : v = 0
    · rw [if_pos ⟨rfl, h2⟩]
      simp [h2]
    · rw [if_neg (fun h' => h2 h'.2)]
      have : (v == 0) = false := by simp [h2]
      rw [this]
      rfl
/-- The sign of a product. -/
theorem sgn_prod (v u : Int) : decide (sgnN 0 v * sgnN 0 u < 0) = (belowB 0 v != belowB 0 u) ∨ v = 0 ∨ u = 0 := by
  by_cases hv : v = 0
  · exact .inr (.inl hv)
  by_cases hu : u = 0
  · exact .inr (.inr hu)
  refine .inl ?_
  unfold sgnN belowB
  by_cases h : v < 0 <;> by_cases h' : u < 0 <;> simp [h, h', hv, hu]
theorem mul_two (k v l u : Int) (hv1 : -9223372036854775808 ≤ v) (hv2 : v ≤ 9223372036854775807) (hu1 : -9223372036854775808 ≤ u) (hu2 : u ≤ 9223372036854775807) : ∃ K U, Op2 6 k v l u K U ∧ (rightB k v = true → rightB l u = true → Op2 13 k v l u K U) := by
  by_cases hc : (k == 1 || l == 1 || infB k || infB l) = true
  · refine ⟨mulK k v l u, 0, fun w => mul_rest k v l u w hc inf_zero, fun hk hl w => ?_⟩
    cases h1 : (k == 1)
    · cases h2 : (l == 1)
      · have h : (k != 0) = true ∨ ((k != 0) = false ∧ (l != 0) = true) := by
          cases h3 : (k != 0)
          · refine .inr ⟨rfl, ?_⟩
            cases h4 : (l != 0)
            · obtain rfl : k = 0 := by simpa using h3
              obtain rfl : l = 0 := by simpa using h4
              simp [infB] at hc
            · rfl
          · exact .inl rfl
        have := refMul_not k v l u w (right_kinds hk) (right_kinds hl) h1 h2 h _ _ _ rfl rfl rfl
        have e : (if (sgnN k v == 0) || (sgnN l u == 0) then (1 : Int) else infK (decide (wrap64 (sgnN k v * sgnN l u) < 0))) = mulK k v l u := by
          have two : ∀ u : Int, (u = 0 ∧ sgnN 0 u = 0 ∧ zeroB 0 u = true ∧ belowB 0 u = false) ∨ (u < 0 ∧ sgnN 0 u = -1 ∧ zeroB 0 u = false ∧ belowB 0 u = true) ∨ (0 < u ∧ sgnN 0 u = 1 ∧ zeroB 0 u = false ∧ belowB 0 u = false) := by
            intro u
            rcases Int.lt_trichotomy u 0 with c | c | c
            · exact .inr (.inl ⟨c, by unfold sgnN; rw [if_pos (.inr ⟨rfl, c⟩)], by unfold zeroB; simp; omega, by unfold belowB; simp [c]⟩)
            · subst c
              exact .inl ⟨rfl, rfl, rfl, rfl⟩
            · exact .inr (.inr ⟨c, by unfold sgnN; rw [if_neg (by omega), if_neg (by omega)], by unfold zeroB; simp; omega, by unfold belowB; simp; omega⟩)
          unfold mulK
          rw [h1, h2]
          rcases right_cases hk with ⟨rfl, _⟩ | ⟨rfl, rfl⟩ | ⟨rfl, rfl⟩ | ⟨rfl, rfl⟩
          · rcases right_cases hl with ⟨rfl, _⟩ | ⟨rfl, rfl⟩ | ⟨rfl, rfl⟩ | ⟨rfl, rfl⟩
            · simp at h
            · cases h2
            · rcases two v with ⟨_, a, b, c⟩ | ⟨_, a, b, c⟩ | ⟨_, a, b, c⟩ <;> rw [a, b, c] <;> (simp [sgnN, infB, zeroB, belowB, infK, wrap64]; done)
            · rcases two v with ⟨_, a, b, c⟩ | ⟨_, a, b, c⟩ | ⟨_, a, b, c⟩ <;> rw [a, b, c] <;> (simp [sgnN, infB, zeroB, belowB, infK, wrap64]; done)
          · cases h1
          all_goals
            rcases right_cases hl with ⟨rfl, _⟩ | ⟨rfl, rfl⟩ | ⟨rfl, rfl⟩ | ⟨rfl, rfl⟩
            · rcases two u with ⟨_, a, b, c⟩ | ⟨_, a, b, c⟩ | ⟨_, a, b, c⟩ <;> rw [a, b, c] <;> (simp [sgnN, infB, zeroB, belowB, infK, wrap64]; done)
            · cases h2
            · (simp [sgnN, infB, zeroB, belowB, infK, wrap64]; done)
            · (simp [sgnN, infB, zeroB, belowB, infK, wrap64]; done)
        rw [e] at this
        exact this
      · have e : mulK k v l u = 1 := by unfold mulK; rw [h1, h2]; rfl
        rw [e]
        exact refMul_nan k v l u w (.inr ⟨h1, h2⟩)
    · have e : mulK k v l u = 1 := by unfold mulK; rw [h1]; rfl
      rw [e]
      exact refMul_nan k v l u w (.inl h1)
  · have hc' : (k == 1) = false ∧ (l == 1) = false ∧ infB k = false ∧ infB l = false := by
      cases h1 : (k == 1) <;> cases h2 : (l == 1) <;> cases h3 : infB k <;> cases h4 : infB l <;> simp_all
    obtain ⟨h1, h2, h3, h4⟩ := hc'
    refine ⟨_, _, fun w => mul_gen k v l u v.natAbs u.natAbs (mulN v u) (quotR (v.natAbs * u.natAbs)) _ _ _ _ _ w h1 h2 h3 h4 rfl rfl rfl (fun w => sizeOf_any v w hv1 hv2) (fun w => sizeOf_any u w hu1 hu2) (fun w => product_any _ _ w (by omega) (by omega)) (fun w => quotient_mil _ w) (fun w => signed_any _ _ w (quotP_lt _)), fun hk hl w => ?_⟩
    obtain ⟨rfl, a1, a2⟩ := right_fin hk h1 h3
    obtain ⟨rfl, b1, b2⟩ := right_fin hl h2 h4
    have := refMul_fin v u w a1 a2 b1 b2
    obtain ⟨e1, e2⟩ := sign_alike (decide (sgnN 0 v * sgnN 0 u < 0)) (belowB 0 v != belowB 0 u) (v.natAbs * u.natAbs / 1000000) (mulN v u) (by
      unfold mulN quotP
      by_cases c : v.natAbs * u.natAbs / 18446744073709551616 < 1000000
      · rw [if_pos c]
        refine .inl ⟨rfl, ?_⟩
        rcases sgn_prod v u with h | h | h
        · exact .inl h
        · exact .inr (by rw [h]; simp)
        · exact .inr (by rw [h]; simp)
      · rw [if_neg c]
        refine .inr ⟨?_, ?_, by omega⟩
        · rcases sgn_prod v u with h | h | h
          · exact h
          · exact absurd (show v.natAbs * u.natAbs / 18446744073709551616 < 1000000 by rw [h]; simp) c
          · exact absurd (show v.natAbs * u.natAbs / 18446744073709551616 < 1000000 by rw [h]; simp) c
        · generalize v.natAbs * u.natAbs = n at c ⊢
          omega)
    rw [e1, e2] at this
    exact this
theorem div_two (k v l u : Int) (hv1 : -9223372036854775808 ≤ v) (hv2 : v ≤ 9223372036854775807) (hu1 : -9223372036854775808 ≤ u) (hu2 : u ≤ 9223372036854775807) : ∃ K U, Op2 7 k v l u K U ∧ (rightB k v = true → rightB l u = true → Op2 14 k v l u K U) := by
  by_cases hc : (k == 1 || l == 1 || infB k || infB l || zeroB l u) = true
  · refine ⟨divK k v l u, 0, fun w => div_rest k v l u w hc, fun hk hl w => ?_⟩
    cases h1 : (k == 1)
    · cases h2 : (l == 1)
      · cases h3 : (k != 0)
        · obtain rfl : k = 0 := by simpa using h3
          cases h4 : (l != 0)
          · obtain rfl : l = 0 := by simpa using h4
            have hu : u = 0 := by simpa [infB, zeroB] using hc
            subst hu
            by_cases hv : v = 0
            · subst hv
              exact refDiv_not 0 0 0 0 _ w (.inr (.inr (.inr (.inr (.inl ⟨rfl, rfl, rfl, rfl, rfl⟩)))))
            · refine refDiv_not 0 v 0 0 _ w (.inr (.inr (.inr (.inr (.inr ⟨rfl, rfl, rfl, by simpa using hv, ?_⟩)))))
              have : (v == 0) = false := by simpa using hv
              simp [divK, infB, zeroB, belowB, hv]
          · refine refDiv_not 0 v l u _ w (.inr (.inr (.inr (.inl ⟨h1, h2, rfl, h4, ?_⟩))))
            have hz : zeroB l u = false := by
              have : l ≠ 0 := by simpa using h4
              simp [zeroB, this]
            unfold divK
            rw [h1, h2, hz]
            simp [infB]
        · cases h4 : (l != 0)
          · refine refDiv_inf k v l u w (right_kinds hk) (right_kinds hl) h1 h2 h3 h4 _ ?_
            obtain rfl : l = 0 := by simpa using h4
            have h5 : infB k = true ∧ decide (sgnN k v < 0) = belowB k v ∧ zeroB k v = false := by
              rcases right_cases hk with ⟨rfl, _⟩ | ⟨rfl, rfl⟩ | ⟨rfl, rfl⟩ | ⟨rfl, rfl⟩
              · cases h3
              · cases h1
              · exact ⟨rfl, by decide, rfl⟩
              · exact ⟨rfl, by decide, rfl⟩
            unfold divK
            rw [h1, h5.1, h5.2.1, h5.2.2, sgn_below]
            simp [infB]
          · refine refDiv_not k v l u _ w (.inr (.inr (.inl ⟨h1, h2, h3, h4, ?_⟩)))
            have h5 : infB k = true ∧ infB l = true := by
              rcases right_cases hk with ⟨rfl, _⟩ | ⟨rfl, rfl⟩ | ⟨rfl, rfl⟩ | ⟨rfl, rfl⟩ <;> rcases right_cases hl with ⟨rfl, _⟩ | ⟨rfl, rfl⟩ | ⟨rfl, rfl⟩ | ⟨rfl, rfl⟩ <;> first | (cases h3; done) | (cases h4; done) | (cases h1; done) | (cases h2; done) | exact ⟨rfl, rfl⟩
            unfold divK
            rw [h1, h2, h5.1, h5.2]
            rfl
      · exact refDiv_not k v l u _ w (.inr (.inl ⟨h1, h2, by unfold divK; rw [h1, h2]; rfl⟩))
    · exact refDiv_not k v l u _ w (.inl ⟨h1, by unfold divK; rw [h1]; rfl⟩)
  · have hc' : (k == 1) = false ∧ (l == 1) = false ∧ infB k = false ∧ infB l = false ∧ zeroB l u = false := by
      cases h1 : (k == 1) <;> cases h2 : (l == 1) <;> cases h3 : infB k <;> cases h4 : infB l <;> cases h5 : zeroB l u <;> simp_all
    obtain ⟨h1, h2, h3, h4, h5⟩ := hc'
    refine ⟨_, _, fun w => div_gen k v l u v.natAbs u.natAbs (qotP (v.natAbs * 1000000 / 18446744073709551616) (v.natAbs * 1000000 % 18446744073709551616) u.natAbs) (qotR (v.natAbs * 1000000 / 18446744073709551616) (v.natAbs * 1000000 % 18446744073709551616) u.natAbs) ((v.natAbs * 1000000 / 18446744073709551616 : Nat) : Int) ((v.natAbs * 1000000 % 18446744073709551616 : Nat) : Int) _ _ _ _ _ w h1 h2 h3 h4 rfl h5 rfl rfl (fun w => sizeOf_any v w hv1 hv2) (fun w => sizeOf_any u w hu1 hu2) (fun w => product_any v.natAbs 1000000 w (by omega) (by decide)) (fun w => quotient_all _ _ _ w (Nat.mod_lt _ (by decide)) (by omega)) (fun w => signed_any _ _ w (qotP_lt _ _ _ (Nat.mod_lt _ (by decide)))), fun hk hl w => ?_⟩
    obtain ⟨rfl, a1, a2⟩ := right_fin hk h1 h3
    obtain ⟨rfl, b1, b2⟩ := right_fin hl h2 h4
    have hu : (u == 0) = false := by simpa [zeroB] using h5
    have hu0 : u ≠ 0 := by simpa using hu
    have ew : wrap64 (sgnN 0 v * sgnN 0 u) = sgnN 0 v * sgnN 0 u := sgn_wrap v u
    obtain ⟨e1, e2⟩ := sign_alike (decide (sgnN 0 v * sgnN 0 u < 0)) (belowB 0 v != belowB 0 u) (v.natAbs * 1000000 / u.natAbs) (qotP (v.natAbs * 1000000 / 18446744073709551616) (v.natAbs * 1000000 % 18446744073709551616) u.natAbs) (by
      unfold qotP
      have e : v.natAbs * 1000000 / 18446744073709551616 * 18446744073709551616 + v.natAbs * 1000000 % 18446744073709551616 = v.natAbs * 1000000 := by
        have := Nat.div_add_mod (v.natAbs * 1000000) 18446744073709551616
        rw [Nat.mul_comm] at this
        exact this
      rw [e]
      by_cases c : u.natAbs ≤ v.natAbs * 1000000 / 18446744073709551616
      · rw [if_pos c]
        refine .inr ⟨?_, ?_, by omega⟩
        · rcases sgn_prod v u with h | h | h
          · exact h
          · rw [h] at c
            simp at c
            exact absurd c hu0
          · exact absurd h hu0
        · have h6 : u.natAbs * 18446744073709551616 ≤ v.natAbs * 1000000 := (Nat.le_div_iff_mul_le (by decide)).1 c
          have h7 : 18446744073709551616 ≤ v.natAbs * 1000000 / u.natAbs := (Nat.le_div_iff_mul_le (by omega)).2 (by rw [Nat.mul_comm]; exact h6)
          omega
      · rw [if_neg c]
        refine .inl ⟨rfl, ?_⟩
        rcases sgn_prod v u with h | h | h
        · exact .inl h
        · exact .inr (by rw [h]; simp)
        · exact absurd h hu0)
    refine refDiv_fin v u w a1 a2 b1 b2 hu _ rfl _ _ ?_ ?_
    · rw [ew]; exact e1
    · rw [ew]; exact e2
theorem mod_two (k v l u : Int) (hv1 : -9223372036854775808 ≤ v) (hv2 : v ≤ 9223372036854775807) (hu1 : -9223372036854775808 ≤ u) (hu2 : u ≤ 9223372036854775807) : ∃ K U, Op2 8 k v l u K U ∧ (rightB k v = true → rightB l u = true → Op2 15 k v l u K U) := by
  by_cases hc : (k == 1 || l == 1 || infB k || infB l || zeroB l u) = true
  · refine ⟨modK k l u, modU k v l u, fun w => mod_rest k v l u w hc, fun hk hl w => refMod_not k v l u _ _ w (right_kinds hl) ?_⟩
    have hz : (l == 1) = false → (sgnN l u == 0) = zeroB l u := by
      intro h2
      rcases right_cases hl with ⟨rfl, _⟩ | ⟨rfl, rfl⟩ | ⟨rfl, rfl⟩ | ⟨rfl, rfl⟩
      · rw [sgn_zero]
        simp [zeroB]
      · cases h2
      · decide
      · decide
    have hk' : (k == 1 || infB k) = (k != 0) := by
      rcases right_cases hk with ⟨rfl, _⟩ | ⟨rfl, rfl⟩ | ⟨rfl, rfl⟩ | ⟨rfl, rfl⟩ <;> decide
    have hl' : (l == 1) = false → infB l = (l != 0) := by
      intro h2
      rcases right_cases hl with ⟨rfl, _⟩ | ⟨rfl, rfl⟩ | ⟨rfl, rfl⟩ | ⟨rfl, rfl⟩ <;> first | (cases h2; done) | decide
    unfold modK modU
    rw [show (k == 1 || l == 1 || infB k || zeroB l u) = ((k == 1 || infB k) || l == 1 || zeroB l u) by cases (k == 1) <;> cases (l == 1) <;> cases infB k <;> rfl]
    rw [hk']
    cases h3 : (k != 0)
    · cases h2 : (l == 1)
      · rw [hz h2]
        cases h5 : zeroB l u
        · refine .inr (.inr (.inr ⟨rfl, rfl, rfl, ?_, rfl, rfl⟩))
          rw [← hl' h2]
          rw [h2, h5] at hc
          have hk2 : (k == 1) = false ∧ infB k = false := by
            rw [h3] at hk'
            simpa using hk'
          rw [hk2.1, hk2.2] at hc
          simpa using hc
        · exact .inr (.inr (.inl ⟨rfl, rfl, rfl, rfl, rfl⟩))
      · exact .inr (.inl ⟨rfl, rfl, rfl, rfl⟩)
    · exact .inl ⟨rfl, rfl, rfl⟩
  · have hc' : (k == 1) = false ∧ (l == 1) = false ∧ infB k = false ∧ infB l = false ∧ zeroB l u = false := by
      cases h1 : (k == 1) <;> cases h2 : (l == 1) <;> cases h3 : infB k <;> cases h4 : infB l <;> cases h5 : zeroB l u <;> simp_all
    obtain ⟨h1, h2, h3, h4, h5⟩ := hc'
    by_cases hu0 : u.natAbs = 0
    · refine ⟨_, _, fun w => mod_gen0 k v l u v.natAbs u.natAbs 18446744073709551615 0 _ w h1 h2 h3 h4 h5 rfl (by decide) (fun w => sizeOf_any v w hv1 hv2) (fun w => sizeOf_any u w hu1 hu2) (fun w => by rw [hu0]; exact quotient_zero _ w), fun hk hl w => ?_⟩
      obtain ⟨rfl, b1, b2⟩ := right_fin hl h2 h4
      exact absurd h5 (by
        have : u = 0 := by omega
        subst this
        decide)
    · have hlt : v.natAbs % u.natAbs < 18446744073709551616 := by
        have := Nat.mod_lt v.natAbs (Nat.pos_of_ne_zero hu0)
        omega
      refine ⟨_, _, fun w => mod_gen k v l u v.natAbs u.natAbs (v.natAbs / u.natAbs) (v.natAbs % u.natAbs) _ w h1 h2 h3 h4 h5 rfl hlt (fun w => sizeOf_any v w hv1 hv2) (fun w => sizeOf_any u w hu1 hu2) (fun w => quotient_any _ _ w (by omega) (Nat.pos_of_ne_zero hu0) (by omega)), fun hk hl w => ?_⟩
      obtain ⟨rfl, a1, a2⟩ := right_fin hk h1 h3
      obtain ⟨rfl, b1, b2⟩ := right_fin hl h2 h4
      have hu : (u == 0) = false := by simpa [zeroB] using h5
      refine refMod_fin v u w a1 a2 b1 b2 hu (by rw [sgn_zero]; exact hu) _ rfl _ _ ?_ ?_
      · rw [show belowB 0 v = decide (v < 0) by simp [belowB]]
      · rw [show belowB 0 v = decide (v < 0) by simp [belowB]]
set_option maxRecDepth 100000 in
set_option maxHeartbeats 4000000 in
theorem refSub_of (k v l u l1 u1 K U : Int) (w : World) (hN : ∀ w, Calls Tryz.prog 17 #[.agg #[.int .i64 l, .int .i64 u]] w fun e w' => e = .returned (.agg #[.int .i64 l1, .int .i64 u1]) ∧ Below w.heap.size w w')
    (hA : Op2 11 k v l1 u1 K U) :
    Calls Tryz.prog 12 #[.agg #[.int .i64 k, .int .i64 v], .agg #[.int .i64 l, .int .i64 u]] w fun e w' => e = .returned (.agg #[.int .i64 K, .int .i64 U]) ∧ Below w.heap.size w w' := by
  have HN := hide hN
  have HA := hide hA
  clear hN hA
  go_enter Tryz.func12, Tryz.ntmps12
  go_wp2_with fail
  have hb0 : Below w.heap.size w (((w.alloc (.cells #[.int .i64 k, .int .i64 v] 24)).alloc (.cells #[.int .i64 l, .int .i64 u] 24)).alloc (.cells #[.int .i64 0, .int .i64 0] 24)) := by
    (repeat first | exact Below.refl _ _ | assumption | refine Below.drew ?_ | refine Below.alloc ?_ (by simp <;> omega) _ | refine Below.setCell ?_ (by simp <;> omega) _)
  have hA : NumAt (((w.alloc (.cells #[.int .i64 k, .int .i64 v] 24)).alloc (.cells #[.int .i64 l, .int .i64 u] 24)).alloc (.cells #[.int .i64 0, .int .i64 0] 24)) w.heap.size k v := ⟨by simp [go_sem], by simp [go_sem], by simp [go_sem], by simp [go_sem]⟩
  have hB : NumAt (((w.alloc (.cells #[.int .i64 k, .int .i64 v] 24)).alloc (.cells #[.int .i64 l, .int .i64 u] 24)).alloc (.cells #[.int .i64 0, .int .i64 0] 24)) (w.heap.size + 1) l u := ⟨by simp [go_sem], by simp [go_sem], by simp [go_sem], by simp [go_sem]⟩
  have hR : NumAt (((w.alloc (.cells #[.int .i64 k, .int .i64 v] 24)).alloc (.cells #[.int .i64 l, .int .i64 u] 24)).alloc (.cells #[.int .i64 0, .int .i64 0] 24)) (w.heap.size + 1 + 1) 0 0 := ⟨by simp [go_sem], by simp [go_sem], by simp [go_sem], by simp [go_sem]⟩
  generalize (((w.alloc (.cells #[.int .i64 k, .int .i64 v] 24)).alloc (.cells #[.int .i64 l, .int .i64 u] 24)).alloc (.cells #[.int .i64 0, .int .i64 0] 24)) = W at hb0 hA hB hR ⊢
  have HR := hide hR
  have hC : ClsN W w.heap.size (w.heap.size + 1) k v l u W.drew := ⟨(Below.refl _ _).drew, hA.kind, hA.val, hB.kind, hB.val⟩
  have HX := hide hC
  have HCE := hide (fun (X w' : World) (hC : ClsN X w.heap.size (w.heap.size + 1) k v l u w') => And.intro hC.a0 (And.intro hC.a1 (And.intro hC.b0 hC.b1)))
  have HB0 := hide hb0
  clear hA hB hR hb0 hC
  have HCE1 := hide (unhide HCE W)
  refine wp_region_cls_tail 4 (ClsN W w.heap.size (w.heap.size + 1) k v l u) (by kernel_rfl) (by kernel_rfl) (by kernel_rfl) (unhide HX) ?_
  simp only [List.take_succ_cons, List.take_zero, List.drop_succ_cons, List.drop_zero]
  repeat
    (first
      | go_big_quiet_skip
      | (go_big_quiet_want
         go_big_quiet_op
         first
           | go_big_quiet_on
           | (apply Exists.intro
              refine ⟨fun w' hC => ?_, ?_⟩
              · (first
                  | (go_at_call 17; refine (unhide HN _).mono ?_; rintro e w3 ⟨rfl, hb3⟩; exact ⟨rfl, hC.below hb3⟩)
                  | (go_at_call 11; refine (unhide HA _).mono ?_; rintro e w3 ⟨rfl, hb3⟩; exact ⟨rfl, hC.below hb3⟩)
                  | (obtain ⟨k0, k1, k2, k3⟩ := unhide HCE1 _ hC; go_simp; first | done | rfl))
              go_big_quiet_on)))
  refine wpQuiet_nil ?_
  intro w2 hC2
  have hR2 := (unhide HR).below hC2.bel
  have hP := hR2.put K U
  have hB := putN_below (Below.then (unhide HB0) hC2.bel) (show w.heap.size ≤ w.heap.size + 1 + 1 by omega) K U
  obtain ⟨q0, q1, q2, q3⟩ := hR2
  clear hC2 HX HCE HR HB0
  go_wp2
  show bodyPost _ _ _ _ _ (putN w2 (w.heap.size + 1 + 1) K U)
  generalize putN w2 (w.heap.size + 1 + 1) K U = X at hP hB ⊢
  obtain ⟨x0, x1, _, _⟩ := hP
  refine bodyPost_ret (v := .agg #[.int .i64 K, .int .i64 U]) ?_ rfl ⟨rfl, hB⟩
  simp [results, Tryz.results12, go_sem, x0, x1]
theorem sub_two (k v l u : Int) : ∃ K U, Op2 5 k v l u K U ∧ (rightB k v = true → rightB l u = true → Op2 12 k v l u K U) := by
  obtain ⟨K, U, h1, h2⟩ := add_two k v (negK l) (negV l u)
  refine ⟨K, U, fun w => sub_gen k v l u (negK l) (negV l u) K U w (fun w => neg_any l u w) h1, fun hk hl w => refSub_of k v l u (negK l) (negV l u) K U w (fun w => refNeg_any l u w) (h2 hk ?_)⟩
  rcases right_cases hl with ⟨rfl, b1, b2⟩ | ⟨rfl, rfl⟩ | ⟨rfl, rfl⟩ | ⟨rfl, rfl⟩
  · have e : negV 0 u = -u := by
      unfold negV wrap64
      rw [if_neg (by decide), if_neg (by decide), if_neg (by decide)]
      omega
    rw [e]
    have e2 : negK 0 = 0 := by decide
    rw [e2]
    unfold rightB
    rw [if_pos rfl, decide_eq_true (by omega), decide_eq_true (by omega)]
    rfl
  · decide
  · decide
  · decide
end Go.Proofs.YtnpdjddebeipiaaGreatDoor
