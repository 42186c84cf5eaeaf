/- Whole numbers around one: the law XnumNear. -/
import Derived.Test.YtigbaoadnonjfaaGreatDoorNumInv
import Derived.Test.YtigbaoadnonjfaaGreatDoorNumNeg
import Derived.Test.YtigbaoadnonjfaaGreatDoorNumKey
import Derived.Test.YtigbaoadnonjfaaGreatDoorNumLive
namespace Go.Proofs.YtigbaoadnonjfaaGreatDoor
open Go.RowKit
attribute [local go_sem ↓] Go.wp_at_zero Go.wp_at_succ
theorem _root_.Go.RowKit.Below.of_drew {W w : World} (h : Below W.drew.heap.size W.drew w) : Below W.heap.size W w := Below.then ((Below.refl _ W).drew) h
/-- What Floor, Ceiling and Round are. -/
theorem near_plain (v f c r : Int) (h1 : -1000000000000000000 ≤ v) (h2 : v ≤ 1000000000000000000) (hf : f = wrap64 (v - v % 1000000)) (hc : c = wrap64 (-(wrap64 (wrap64 (-v) - wrap64 (-v) % 1000000)))) (hr : r = wrap64 (wrap64 (v + 500000) - wrap64 (v + 500000) % 1000000)) :
    f.tmod 1000000 = 0 ∧ -1000000000001000000 ≤ f ∧ f ≤ 1000000000001000000 ∧ ((v = f ∧ c = f ∧ r = f) ∨ ∃ m, 0 < m ∧ m < 1000000 ∧ v = f + m ∧ c = f + 1000000 ∧ ((m < 500000 ∧ r = f) ∨ (500000 ≤ m ∧ r = f + 1000000))) := by
  have w1 : wrap64 (-v) = -v := by unfold wrap64; omega
  have w2 : wrap64 (v + 500000) = v + 500000 := by unfold wrap64; omega
  rw [w1] at hc
  rw [w2] at hr
  have hf' : f = v - v % 1000000 := by rw [hf]; unfold wrap64; omega
  have hc' : c = -(-v - -v % 1000000) := by
    rw [hc]
    have : wrap64 (-v - -v % 1000000) = -v - -v % 1000000 := by unfold wrap64; omega
    rw [this]
    unfold wrap64
    omega
  have hr' : r = v + 500000 - (v + 500000) % 1000000 := by rw [hr]; unfold wrap64; omega
  refine ⟨?_, by omega, by omega, ?_⟩
  · have := tmod_emod f
    obtain ⟨t1, t2, t3, t4⟩ := this
    have hz : f % 1000000 = 0 := by omega
    by_cases h : f.tmod 1000000 < 0
    · have := t3 h
      omega
    · have := t4 (by omega)
      omega
  · by_cases hm : v % 1000000 = 0
    · exact .inl ⟨by omega, by omega, by omega⟩
    · refine .inr ⟨v % 1000000, by omega, by omega, by omega, by omega, ?_⟩
      by_cases h5 : v % 1000000 < 500000
      · exact .inl ⟨h5, by omega⟩
      · exact .inr ⟨by omega, by omega⟩
set_option maxRecDepth 100000 in
set_option maxHeartbeats 4000000 in
theorem near_walk (k v : Int) (w : World) (hE : NumEnv w) :
    Calls Tryz.prog 5 #[.agg #[.int .i64 k, .int .i64 v]] w fun e w' => e = .returned (.bool true) ∧ Below w.heap.size w w' := by
  have HE := hide hE
  clear hE
  have hb0 : Below w.heap.size w ((w.alloc (.cells #[.int .i64 k, .int .i64 v] 24)).alloc (.cells #[.int .i64 k, .int .i64 v] 24)) := by
    (repeat first | exact Below.refl _ _ | assumption | refine Below.drew ?_ | refine Below.alloc ?_ (by simp <;> omega) _ | refine Below.setCell ?_ (by simp <;> omega) _)
  have hN : NumAt ((w.alloc (.cells #[.int .i64 k, .int .i64 v] 24)).alloc (.cells #[.int .i64 k, .int .i64 v] 24)) w.heap.size k v := ⟨by simp [go_sem], by simp [go_sem], by simp [go_sem], by simp [go_sem]⟩
  cases hr : rightB k v
  · clear hN
    go_enter Tryz.func5, Tryz.ntmps5
    go_wp2_with (go_at_call 9; refine (refRight_any _ _ _).mono ?_; rintro e w' ⟨rfl, rfl⟩; rw [hr])
    refine (live_any _ ((unhide HE).below hb0)).mono ?_
    rintro e w4 ⟨rfl, hb4⟩
    go_wp2
    go_ret
    exact ⟨rfl, Below.then hb0 hb4⟩
  · by_cases hk : k = 0
    · subst hk
      obtain ⟨v1, v2⟩ : -1000000000000000000 ≤ v ∧ v ≤ 1000000000000000000 := by
        rcases right_cases hr with h | h | h | h
        · exact h.2
        · cases h.1
        · cases h.1
        · cases h.1
      obtain ⟨f, hf⟩ : ∃ f, f = wrap64 (v - v % 1000000) := ⟨_, rfl⟩
      obtain ⟨c, hc⟩ : ∃ c, c = wrap64 (-(wrap64 (wrap64 (-v) - wrap64 (-v) % 1000000))) := ⟨_, rfl⟩
      obtain ⟨r, hrr⟩ : ∃ r, r = wrap64 (wrap64 (v + 500000) - wrap64 (v + 500000) % 1000000) := ⟨_, rfl⟩
      have HPL := hide (near_plain v f c r v1 v2 hf hc hrr)
      have HF := hide (fun w => floor_fin v w)
      have HC := hide (fun w => ceiling_fin v w)
      have HR := hide (fun w => round_fin v w)
      rw [← hf] at HF
      rw [← hc] at HC
      rw [← hrr] at HR
      clear hf hc hrr
      go_enter Tryz.func5, Tryz.ntmps5
      go_wp2_with (go_at_call 9; refine (refRight_any _ _ _).mono ?_; rintro e w' ⟨rfl, rfl⟩; rw [hr])
      generalize ((w.alloc (.cells #[.int .i64 0, .int .i64 v] 24)).alloc (.cells #[.int .i64 0, .int .i64 v] 24)) = W at hb0 hN ⊢
      have HN := hide hN
      obtain ⟨a0, a1, _, _⟩ := hN
      go_cut [3, 4, 5] (fun s3 s4 s5 wx => ∃ b3 b4 b5 : Nat, s3 = .pointer (some ⟨b3, 0, none⟩) ∧ s4 = .pointer (some ⟨b4, 0, none⟩) ∧ s5 = .pointer (some ⟨b5, 0, none⟩) ∧ NumAt wx b3 0 f ∧ NumAt wx b4 0 c ∧ NumAt wx b5 0 r ∧ Below W.heap.size W wx)
      case first =>
        refine wp_region_inv2 (by kernel_rfl) (fun A0 X L a' w' => ∃ (f0 f1 f2 f3 f4 f5 f6 f7 f8 f9 f10 f11 : Bool) (l0 r1 l2 r3 l4 r5 q6 q7 q8 : Value) (b6 b7 b8 : Nat), L = #[f0, f1, f2, f3, f4, f5, f6, f7, f8, f9, f10, f11] ∧ a' = setT A0 [(16, l0), (17, r1), (18, l2), (19, r3), (20, l4), (21, r5), (3, q6), (4, q7), (5, q8)] ∧ Below X.heap.size X w' ∧ (f0 = true → l0 = .agg #[.int .i64 0, .int .i64 v]) ∧ (f1 = true → r1 = .agg #[.int .i64 0, .int .i64 f]) ∧ (f2 = true → l2 = .agg #[.int .i64 0, .int .i64 v]) ∧ (f3 = true → r3 = .agg #[.int .i64 0, .int .i64 c]) ∧ (f4 = true → l4 = .agg #[.int .i64 0, .int .i64 v]) ∧ (f5 = true → r5 = .agg #[.int .i64 0, .int .i64 r]) ∧ (f6 = true → NumBox w' X b6 q6 f9 0 f) ∧ (f7 = true → NumBox w' X b7 q7 f10 0 c) ∧ (f8 = true → NumBox w' X b8 q8 f11 0 r) ∧ (f6 = true → f7 = true → b6 ≠ b7) ∧ (f6 = true → f8 = true → b6 ≠ b8) ∧ (f7 = true → f8 = true → b7 ≠ b8) ∧ (f9 = true → f6 = true) ∧ (f10 = true → f7 = true) ∧ (f11 = true → f8 = true)) ?_ ?_ ?_
        · exact ⟨false, false, false, false, false, false, false, false, false, false, false, false, undef, undef, undef, undef, undef, undef, undef, undef, undef, 0, 0, 0, rfl, (by simp only [setT, List.foldl, List.setIfInBounds_toArray, List.set_cons_zero, List.set_cons_succ]), Below.refl _ _, (fun h => by cases h), (fun h => by cases h), (fun h => by cases h), (fun h => by cases h), (fun h => by cases h), (fun h => by cases h), (fun h => by cases h), (fun h => by cases h), (fun h => by cases h), (fun h => by cases h), (fun h => by cases h), (fun h => by cases h), (fun h => by cases h), (fun h => by cases h), (fun h => by cases h)⟩
        · intro L a' w' hI hr
          obtain ⟨f0, f1, f2, f3, f4, f5, f6, f7, f8, f9, f10, f11, l0, r1, l2, r3, l4, r5, q6, q7, q8, b6, b7, b8, hL, ha, hb, hl0, hr1, hl2, hr3, hl4, hr5, hq6, hq7, hq8, n6_7, n6_8, n7_8, s9, s10, s11⟩ := hI
          subst hL
          obtain rfl : f0 = true := by have := not_ready (i := 0) hr rfl (by simp [Region.binds]); simpa using this
          obtain rfl : f1 = true := by have := not_ready (i := 1) hr rfl (by simp [Region.binds]); simpa using this
          obtain rfl : f2 = true := by have := not_ready (i := 2) hr rfl (by simp [Region.binds]); simpa using this
          obtain rfl : f3 = true := by have := not_ready (i := 3) hr rfl (by simp [Region.binds]); simpa using this
          obtain rfl : f4 = true := by have := not_ready (i := 4) hr rfl (by simp [Region.binds]); simpa using this
          obtain rfl : f5 = true := by have := not_ready (i := 5) hr rfl (by simp [Region.binds]); simpa using this
          obtain rfl : f6 = true := by have := not_ready (i := 6) hr rfl (by simp [Region.binds]); simpa using this
          obtain rfl : f7 = true := by have := not_ready (i := 7) hr rfl (by simp [Region.binds]); simpa using this
          obtain rfl : f8 = true := by have := not_ready (i := 8) hr rfl (by simp [Region.binds]); simpa using this
          obtain rfl : f9 = true := by have := not_ready (i := 9) hr rfl (by simp [Region.binds]); simpa using this
          obtain rfl : f10 = true := by have := not_ready (i := 10) hr rfl (by simp [Region.binds]); simpa using this
          obtain rfl : f11 = true := by have := not_ready (i := 11) hr rfl (by simp [Region.binds]); simpa using this
          obtain rfl := hl0 rfl
          obtain rfl := hr1 rfl
          obtain rfl := hl2 rfl
          obtain rfl := hr3 rfl
          obtain rfl := hl4 rfl
          obtain rfl := hr5 rfl
          obtain rfl := (hq6 rfl).ptr
          obtain rfl := (hq7 rfl).ptr
          obtain rfl := (hq8 rfl).ptr
          simp only [setT, List.foldl, List.setIfInBounds_toArray, List.set_cons_zero, List.set_cons_succ] at ha
          subst ha
          have B6 := (hq6 rfl).at_
          have B7 := (hq7 rfl).at_
          have B8 := (hq8 rfl).at_
          have hbb := hb.of_drew
          clear hq6 hq7 hq8 hb
          have HB := hide (And.intro B6 (And.intro B7 (And.intro B8 hbb)))
          clear B6 B7 B8 hbb
          try go_wp2_with fail
          go_meet
          exact ⟨_, _, _, rfl, rfl, rfl, (unhide HB).1, (unhide HB).2.1, (unhide HB).2.2.1, (unhide HB).2.2.2⟩
        · intro L a' w' i hI hi
          have hlt : i < 12 := by obtain ⟨_, o, ho, _⟩ := mem_ready.1 hi; exact (Array.getElem?_eq_some_iff.1 ho).1
          obtain ⟨f0, f1, f2, f3, f4, f5, f6, f7, f8, f9, f10, f11, l0, r1, l2, r3, l4, r5, q6, q7, q8, b6, b7, b8, hL, ha, hb, hl0, hr1, hl2, hr3, hl4, hr5, hq6, hq7, hq8, n6_7, n6_8, n7_8, s9, s10, s11⟩ := hI
          subst hL
          simp only [setT, List.foldl, List.setIfInBounds_toArray, List.set_cons_zero, List.set_cons_succ] at ha
          match i, hlt with
          | 0, _ =>
            have g0 := kept_cell hb a0
            have g1 := kept_cell hb a1
            subst ha
            refine wpOp_step rfl (fun K hK => ?_)
            go_simp
            refine hK _ _ ⟨true, f1, f2, f3, f4, f5, f6, f7, f8, f9, f10, f11, .agg #[.int .i64 0, .int .i64 v], r1, l2, r3, l4, r5, q6, q7, q8, b6, b7, b8, rfl, (by simp only [setT, List.foldl, List.setIfInBounds_toArray, List.set_cons_zero, List.set_cons_succ]), (hb), (fun _ => rfl), hr1, hl2, hr3, hl4, hr5, hq6, hq7, hq8, n6_7, n6_8, n7_8, s9, s10, s11⟩
          | 1, _ =>
            obtain rfl : f0 = true := by have := dep_done hi rfl (j := 0) (g := .data) (by simp) rfl; simpa using this
            obtain rfl := hl0 rfl
            subst ha
            refine wpOp_step rfl (fun K hK => ?_)
            go_simp
            refine (unhide HF _).mono ?_
            rintro e w1 ⟨rfl, hb1⟩
            refine hK _ _ ⟨true, true, f2, f3, f4, f5, f6, f7, f8, f9, f10, f11, .agg #[.int .i64 0, .int .i64 v], .agg #[.int .i64 0, .int .i64 f], l2, r3, l4, r5, q6, q7, q8, b6, b7, b8, rfl, (by simp only [setT, List.foldl, List.setIfInBounds_toArray, List.set_cons_zero, List.set_cons_succ]), (Below.then hb hb1), hl0, (fun _ => rfl), hl2, hr3, hl4, hr5, (fun h => (hq6 h).below hb1), (fun h => (hq7 h).below hb1), (fun h => (hq8 h).below hb1), n6_7, n6_8, n7_8, s9, s10, s11⟩
          | 2, _ =>
            have g0 := kept_cell hb a0
            have g1 := kept_cell hb a1
            subst ha
            refine wpOp_step rfl (fun K hK => ?_)
            go_simp
            refine hK _ _ ⟨f0, f1, true, f3, f4, f5, f6, f7, f8, f9, f10, f11, l0, r1, .agg #[.int .i64 0, .int .i64 v], r3, l4, r5, q6, q7, q8, b6, b7, b8, rfl, (by simp only [setT, List.foldl, List.setIfInBounds_toArray, List.set_cons_zero, List.set_cons_succ]), (hb), hl0, hr1, (fun _ => rfl), hr3, hl4, hr5, hq6, hq7, hq8, n6_7, n6_8, n7_8, s9, s10, s11⟩
          | 3, _ =>
            obtain rfl : f2 = true := by have := dep_done hi rfl (j := 2) (g := .data) (by simp) rfl; simpa using this
            obtain rfl := hl2 rfl
            subst ha
            refine wpOp_step rfl (fun K hK => ?_)
            go_simp
            refine (unhide HC _).mono ?_
            rintro e w1 ⟨rfl, hb1⟩
            refine hK _ _ ⟨f0, f1, true, true, f4, f5, f6, f7, f8, f9, f10, f11, l0, r1, .agg #[.int .i64 0, .int .i64 v], .agg #[.int .i64 0, .int .i64 c], l4, r5, q6, q7, q8, b6, b7, b8, rfl, (by simp only [setT, List.foldl, List.setIfInBounds_toArray, List.set_cons_zero, List.set_cons_succ]), (Below.then hb hb1), hl0, hr1, hl2, (fun _ => rfl), hl4, hr5, (fun h => (hq6 h).below hb1), (fun h => (hq7 h).below hb1), (fun h => (hq8 h).below hb1), n6_7, n6_8, n7_8, s9, s10, s11⟩
          | 4, _ =>
            have g0 := kept_cell hb a0
            have g1 := kept_cell hb a1
            subst ha
            refine wpOp_step rfl (fun K hK => ?_)
            go_simp
            refine hK _ _ ⟨f0, f1, f2, f3, true, f5, f6, f7, f8, f9, f10, f11, l0, r1, l2, r3, .agg #[.int .i64 0, .int .i64 v], r5, q6, q7, q8, b6, b7, b8, rfl, (by simp only [setT, List.foldl, List.setIfInBounds_toArray, List.set_cons_zero, List.set_cons_succ]), (hb), hl0, hr1, hl2, hr3, (fun _ => rfl), hr5, hq6, hq7, hq8, n6_7, n6_8, n7_8, s9, s10, s11⟩
          | 5, _ =>
            obtain rfl : f4 = true := by have := dep_done hi rfl (j := 4) (g := .data) (by simp) rfl; simpa using this
            obtain rfl := hl4 rfl
            subst ha
            refine wpOp_step rfl (fun K hK => ?_)
            go_simp
            refine (unhide HR _).mono ?_
            rintro e w1 ⟨rfl, hb1⟩
            refine hK _ _ ⟨f0, f1, f2, f3, true, true, f6, f7, f8, f9, f10, f11, l0, r1, l2, r3, .agg #[.int .i64 0, .int .i64 v], .agg #[.int .i64 0, .int .i64 r], q6, q7, q8, b6, b7, b8, rfl, (by simp only [setT, List.foldl, List.setIfInBounds_toArray, List.set_cons_zero, List.set_cons_succ]), (Below.then hb hb1), hl0, hr1, hl2, hr3, hl4, (fun _ => rfl), (fun h => (hq6 h).below hb1), (fun h => (hq7 h).below hb1), (fun h => (hq8 h).below hb1), n6_7, n6_8, n7_8, s9, s10, s11⟩
          | 6, _ =>
            obtain rfl : f6 = false := by have := (mem_ready.1 hi).1; simpa using this
            obtain rfl : f9 = false := by cases h : f9 with | false => rfl | true => exact (s9 h).symm
            subst ha
            refine wpOp_step rfl (fun K hK => ?_)
            go_simp
            refine hK _ _ ⟨f0, f1, f2, f3, f4, f5, true, f7, f8, false, f10, f11, l0, r1, l2, r3, l4, r5, .pointer (some ⟨w'.heap.size, 0, none⟩), q7, q8, w'.heap.size, b7, b8, rfl, (by simp only [setT, List.foldl, List.setIfInBounds_toArray, List.set_cons_zero, List.set_cons_succ]), (hb.alloc hb.size _), hl0, hr1, hl2, hr3, hl4, hr5, (fun _ => NumBox.new hb.size _ _), (fun h => (hq7 h).below ((Below.refl _ _).alloc (Nat.le_refl _) _)), (fun h => (hq8 h).below ((Below.refl _ _).alloc (Nat.le_refl _) _)), (fun _ h => Nat.ne_of_gt (hq7 h).lt), (fun _ h => Nat.ne_of_gt (hq8 h).lt), n7_8, (fun h => by cases h), (s10), (s11)⟩
          | 7, _ =>
            obtain rfl : f7 = false := by have := (mem_ready.1 hi).1; simpa using this
            obtain rfl : f10 = false := by cases h : f10 with | false => rfl | true => exact (s10 h).symm
            subst ha
            refine wpOp_step rfl (fun K hK => ?_)
            go_simp
            refine hK _ _ ⟨f0, f1, f2, f3, f4, f5, f6, true, f8, f9, false, f11, l0, r1, l2, r3, l4, r5, q6, .pointer (some ⟨w'.heap.size, 0, none⟩), q8, b6, w'.heap.size, b8, rfl, (by simp only [setT, List.foldl, List.setIfInBounds_toArray, List.set_cons_zero, List.set_cons_succ]), (hb.alloc hb.size _), hl0, hr1, hl2, hr3, hl4, hr5, (fun h => (hq6 h).below ((Below.refl _ _).alloc (Nat.le_refl _) _)), (fun _ => NumBox.new hb.size _ _), (fun h => (hq8 h).below ((Below.refl _ _).alloc (Nat.le_refl _) _)), (fun h _ => Nat.ne_of_lt (hq6 h).lt), n6_8, (fun _ h => Nat.ne_of_gt (hq8 h).lt), (s9), (fun h => by cases h), (s11)⟩
          | 8, _ =>
            obtain rfl : f8 = false := by have := (mem_ready.1 hi).1; simpa using this
            obtain rfl : f11 = false := by cases h : f11 with | false => rfl | true => exact (s11 h).symm
            subst ha
            refine wpOp_step rfl (fun K hK => ?_)
            go_simp
            refine hK _ _ ⟨f0, f1, f2, f3, f4, f5, f6, f7, true, f9, f10, false, l0, r1, l2, r3, l4, r5, q6, q7, .pointer (some ⟨w'.heap.size, 0, none⟩), b6, b7, w'.heap.size, rfl, (by simp only [setT, List.foldl, List.setIfInBounds_toArray, List.set_cons_zero, List.set_cons_succ]), (hb.alloc hb.size _), hl0, hr1, hl2, hr3, hl4, hr5, (fun h => (hq6 h).below ((Below.refl _ _).alloc (Nat.le_refl _) _)), (fun h => (hq7 h).below ((Below.refl _ _).alloc (Nat.le_refl _) _)), (fun _ => NumBox.new hb.size _ _), n6_7, (fun h _ => Nat.ne_of_lt (hq6 h).lt), (fun h _ => Nat.ne_of_lt (hq7 h).lt), (s9), (s10), (fun h => by cases h)⟩
          | 9, _ =>
            obtain rfl : f6 = true := by have := dep_done hi rfl (j := 6) (g := .data) (by simp) rfl; simpa using this
            obtain rfl : f1 = true := by have := dep_done hi rfl (j := 1) (g := .data) (by simp) rfl; simpa using this
            obtain rfl := hr1 rfl
            have B := hq6 rfl
            obtain rfl := B.ptr
            obtain ⟨m0, m1, m2, m3⟩ := B.at_
            subst ha
            refine wpOp_step rfl (fun K hK => ?_)
            go_simp
            refine hK _ (putN w' b6 0 f) ⟨f0, true, f2, f3, f4, f5, true, f7, f8, true, f10, f11, l0, .agg #[.int .i64 0, .int .i64 f], l2, r3, l4, r5, .pointer (some ⟨b6, 0, none⟩), q7, q8, b6, b7, b8, rfl, (by simp only [setT, List.foldl, List.setIfInBounds_toArray, List.set_cons_zero, List.set_cons_succ]), (putN_below hb B.ge 0 f), hl0, hr1, hl2, hr3, hl4, hr5, (fun _ => B.put), (fun h => (hq7 h).keep (fun e => n6_7 rfl h e.symm) _ _), (fun h => (hq8 h).keep (fun e => n6_8 rfl h e.symm) _ _), n6_7, n6_8, n7_8, (fun _ => rfl), s10, s11⟩
          | 10, _ =>
            obtain rfl : f7 = true := by have := dep_done hi rfl (j := 7) (g := .data) (by simp) rfl; simpa using this
            obtain rfl : f3 = true := by have := dep_done hi rfl (j := 3) (g := .data) (by simp) rfl; simpa using this
            obtain rfl := hr3 rfl
            have B := hq7 rfl
            obtain rfl := B.ptr
            obtain ⟨m0, m1, m2, m3⟩ := B.at_
            subst ha
            refine wpOp_step rfl (fun K hK => ?_)
            go_simp
            refine hK _ (putN w' b7 0 c) ⟨f0, f1, f2, true, f4, f5, f6, true, f8, f9, true, f11, l0, r1, l2, .agg #[.int .i64 0, .int .i64 c], l4, r5, q6, .pointer (some ⟨b7, 0, none⟩), q8, b6, b7, b8, rfl, (by simp only [setT, List.foldl, List.setIfInBounds_toArray, List.set_cons_zero, List.set_cons_succ]), (putN_below hb B.ge 0 c), hl0, hr1, hl2, hr3, hl4, hr5, (fun h => (hq6 h).keep (n6_7 h rfl) _ _), (fun _ => B.put), (fun h => (hq8 h).keep (fun e => n7_8 rfl h e.symm) _ _), n6_7, n6_8, n7_8, s9, (fun _ => rfl), s11⟩
          | 11, _ =>
            obtain rfl : f8 = true := by have := dep_done hi rfl (j := 8) (g := .data) (by simp) rfl; simpa using this
            obtain rfl : f5 = true := by have := dep_done hi rfl (j := 5) (g := .data) (by simp) rfl; simpa using this
            obtain rfl := hr5 rfl
            have B := hq8 rfl
            obtain rfl := B.ptr
            obtain ⟨m0, m1, m2, m3⟩ := B.at_
            subst ha
            refine wpOp_step rfl (fun K hK => ?_)
            go_simp
            refine hK _ (putN w' b8 0 r) ⟨f0, f1, f2, f3, f4, true, f6, f7, true, f9, f10, true, l0, r1, l2, r3, l4, .agg #[.int .i64 0, .int .i64 r], q6, q7, .pointer (some ⟨b8, 0, none⟩), b6, b7, b8, rfl, (by simp only [setT, List.foldl, List.setIfInBounds_toArray, List.set_cons_zero, List.set_cons_succ]), (putN_below hb B.ge 0 r), hl0, hr1, hl2, hr3, hl4, hr5, (fun h => (hq6 h).keep (n6_8 h rfl) _ _), (fun h => (hq7 h).keep (n7_8 h rfl) _ _), (fun _ => B.put), n6_7, n6_8, n7_8, s9, s10, (fun _ => rfl)⟩
      case rest =>
        obtain ⟨b3, b4, b5, rfl, rfl, rfl, h3, h4, h5, hbx⟩ := hcut
        have h1 := (unhide HN).below hbx
        have hb1 := Below.then hb0 hbx
        obtain ⟨hfm, f1, f2, hcase⟩ := unhide HPL
        clear HPL HN hbx hb0 a0 a1 HF HC HR hr
        have H1 := hide h1
        have H3 := hide h3
        have H4 := hide h4
        have H5 := hide h5
        obtain ⟨x0, x1, _, _⟩ := h1
        obtain ⟨y0, y1, _, _⟩ := h3
        obtain ⟨z0, z1, _, _⟩ := h4
        clear h5
        rcases hcase with ⟨rfl, rfl, rfl⟩ | ⟨m, m0, m1, rfl, rfl, ⟨m2, rfl⟩ | ⟨m2, rfl⟩⟩
        all_goals
          go_wp2_with fail
          refine (live_any _ ((unhide HE).below hb1)).mono ?_
          rintro e w5 ⟨rfl, hb5⟩
          clear x0 x1 y0 y1 z0 z1
          obtain ⟨x0, x1, _, _⟩ := (unhide H1).below hb5
          obtain ⟨y0, y1, _, _⟩ := (unhide H3).below hb5
          obtain ⟨z0, z1, _, _⟩ := (unhide H4).below hb5
          obtain ⟨s0, s1, _, _⟩ := (unhide H5).below hb5
          have hb05 := Below.then hb1 hb5
          clear H1 H3 H4 H5 hb1 hb5 HE
          go_wp2
          all_goals go_ret
          all_goals exact ⟨ret_bool (by simp <;> omega), hb05⟩
    · have hk' : (k == 0) = false := by simpa using hk
      obtain ⟨a0, a1, _, _⟩ := hN
      go_enter Tryz.func5, Tryz.ntmps5
      go_wp2_with (go_at_call 9; refine (refRight_any _ _ _).mono ?_; rintro e w' ⟨rfl, rfl⟩; rw [hr])
      refine (live_any _ ((unhide HE).below hb0)).mono ?_
      rintro e w4 ⟨rfl, hb4⟩
      go_wp2
      go_ret
      exact ⟨rfl, Below.then hb0 hb4⟩
end Go.Proofs.YtigbaoadnonjfaaGreatDoor
