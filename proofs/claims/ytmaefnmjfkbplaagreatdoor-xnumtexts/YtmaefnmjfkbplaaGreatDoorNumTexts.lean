/- What a text says, and a number as a text: the law XnumTexts. -/
import Derived.Test.YtmaefnmjfkbplaaGreatDoorNumRefQ
import Derived.Test.YtmaefnmjfkbplaaGreatDoorNumRefU
import Derived.Test.YtmaefnmjfkbplaaGreatDoorNumRight
import Derived.Test.YtmaefnmjfkbplaaGreatDoorNumLive
import Derived.WalkSmall
namespace Go.Proofs.YtmaefnmjfkbplaaGreatDoor
open Go.RowKit
attribute [local go_sem ↓] Go.wp_at_zero Go.wp_at_succ
theorem wf_range {a : Int} (h : (Lit.int .i64 a).wf = true) : -9223372036854775808 ≤ a ∧ a ≤ 9223372036854775807 := by
  unfold Lit.wf at h
  rw [Bool.and_eq_true] at h
  exact ⟨of_decide_eq_true h.1, of_decide_eq_true h.2⟩
set_option maxRecDepth 100000 in
set_option maxHeartbeats 2000000 in
theorem texts_walk1 (s T : ByteArray) (k v PK PN : Int) (w : World) (hE : NumEnv w)
    (hT : ∀ w, NumEnv w → Calls Tryz.prog 20 #[.agg #[.int .i64 k, .int .i64 v]] w fun e w' => e = .returned (.string T) ∧ Below w.heap.size w w')
    (hP : ∀ w, NumEnv w → Calls Tryz.prog 21 #[.string s] w fun e w' => e = .returned (.agg #[.int .i64 PK, .int .i64 PN]) ∧ Below w.heap.size w w')
    (hR : ∀ w, Calls Tryz.prog 22 #[.string s] w fun e w' => e = .returned (.agg #[.int .i64 PK, .int .i64 PN]) ∧ Below w.heap.size w w')
    (h : rightB k v = false ∨ (rightB k v = true ∧ ∀ w, Calls Tryz.prog 24 #[.agg #[.int .i64 k, .int .i64 v]] w fun e w' => e = .returned (.string T) ∧ Below w.heap.size w w')) :
    Calls Tryz.prog 4 #[.string s, .agg #[.int .i64 k, .int .i64 v]] w fun e w' => e = .returned (.bool true) ∧ Below w.heap.size w w' := by
  have HE := hide hE
  have HT := hide hT
  have HP := hide hP
  have HR := hide hR
  have HG := hide (show ∀ w, Calls Tryz.prog 23 #[.agg #[.int .i64 k, .int .i64 v]] w fun e w' => e = .returned (.bool (rightB k v)) ∧ Below w.heap.size w w' from fun w => (refRight_any k v w).mono (by rintro e w' ⟨rfl, rfl⟩; exact ⟨rfl, by (repeat first | exact Below.refl _ _ | assumption | refine Below.drew ?_ | refine Below.alloc ?_ (by simp <;> omega) _ | refine Below.setCell ?_ (by simp <;> omega) _)⟩))
  clear hE hT hP hR
  go_enter Tryz.func4, Tryz.ntmps4
  go_wp2_with fail
  have hb0 : Below w.heap.size w (w.alloc (.cells #[.int .i64 k, .int .i64 v] 24)) := by
    (repeat first | exact Below.refl _ _ | assumption | refine Below.drew ?_ | refine Below.alloc ?_ (by simp <;> omega) _ | refine Below.setCell ?_ (by simp <;> omega) _)
  refine (unhide HT _ ((unhide HE).below hb0)).mono ?_
  rintro e w1 ⟨rfl, hb1⟩
  have hN : NumAt w1 w.heap.size k v := NumAt.below (w := (w.alloc (.cells #[.int .i64 k, .int .i64 v] 24))) ⟨by simp [go_sem], by simp [go_sem], by simp [go_sem], by simp [go_sem]⟩ hb1
  have hb01 : Below w.heap.size w w1 := Below.then hb0 hb1
  clear hb0 hb1 HT
  go_wp2_with fail
  refine (live_any _ ((unhide HE).below hb01)).mono ?_
  rintro e w2 ⟨rfl, hb2⟩
  have hb02 := Below.then hb01 hb2
  have hN2 := hN.below hb2
  clear hb01 hb2 hN
  go_wp2_with fail
  refine (unhide HP _ ((unhide HE).below hb02)).mono ?_
  rintro e w3 ⟨rfl, hb3⟩
  have hb03 := Below.then hb02 hb3
  have hN3 := hN2.below hb3
  clear hb02 hb3 hN2 HP
  go_wp2_with fail
  refine (unhide HR _).mono ?_
  rintro e w4 ⟨rfl, hb4⟩
  have hb04 := Below.then hb03 hb4
  have hN4 := hN3.below hb4
  clear hb03 hb4 hN3 HR HE
  have HN4 := hide hN4
  obtain ⟨a0, a1, _, _⟩ := hN4
  go_wp2_with fail
  refine (unhide HG _).mono ?_
  rintro e w5 ⟨rfl, hb5⟩
  have hb05 := Below.then hb04 hb5
  have hN5 := (unhide HN4).below hb5
  clear hb04 hb5 HN4 HG a0 a1
  rcases h with h | ⟨h, hX⟩
  · rw [h]
    go_wp2
    go_ret
    exact ⟨rfl, hb05⟩
  · rw [h]
    have HX := hide hX
    clear hX
    obtain ⟨a0, a1, _, _⟩ := hN5
    go_wp2_with fail
    refine (unhide HX _).mono ?_
    rintro e w6 ⟨rfl, hb6⟩
    have hb06 := Below.then hb05 hb6
    clear a0 a1
    go_wp2
    go_ret
    exact ⟨rfl, hb06⟩
theorem texts_walk (s : ByteArray) (k v : Int) (w : World) (hE : NumEnv w) (hs : s.size ≤ 1048576) (h1 : -9223372036854775808 ≤ v) (h2 : v ≤ 9223372036854775807) :
    Calls Tryz.prog 4 #[.string s, .agg #[.int .i64 k, .int .i64 v]] w fun e w' => e = .returned (.bool true) ∧ Below w.heap.size w w' := by
  have hP : ∀ w, NumEnv w → Calls Tryz.prog 21 #[.string s] w fun e w' => e = .returned (.agg #[.int .i64 (saidK (trimB s.data.toList)), .int .i64 (saidN (trimB s.data.toList))]) ∧ Below w.heap.size w w' := fun w hE => parse_all s w hE.len hE.tabs hs
  have hR := fun w => refParse_any s w hs
  by_cases k1 : k = 1
  · subst k1
    refine texts_walk1 s ⟨#[78, 97, 78]⟩ 1 v _ _ w hE (fun w _ => (text_not v w).1) hP hR ?_
    cases h : rightB 1 v
    · exact .inl rfl
    · exact .inr ⟨rfl, fun w => (refText_not v w).1⟩
  · by_cases k2 : k = 2
    · subst k2
      refine texts_walk1 s ⟨#[73, 110, 102, 105, 110, 105, 116, 121]⟩ 2 v _ _ w hE (fun w _ => (text_not v w).2.1) hP hR ?_
      cases h : rightB 2 v
      · exact .inl rfl
      · exact .inr ⟨rfl, fun w => (refText_not v w).2.1⟩
    · by_cases k3 : k = 3
      · subst k3
        refine texts_walk1 s ⟨#[45, 73, 110, 102, 105, 110, 105, 116, 121]⟩ 3 v _ _ w hE (fun w _ => (text_not v w).2.2) hP hR ?_
        cases h : rightB 3 v
        · exact .inl rfl
        · exact .inr ⟨rfl, fun w => (refText_not v w).2.2⟩
      · refine texts_walk1 s _ k v _ _ w hE (fun w hE => text_gen k v w (by simpa using k1) (by simpa using k2) (by simpa using k3) hE.pow h1 h2) hP hR ?_
        cases h : rightB k v
        · exact .inl rfl
        · refine .inr ⟨rfl, fun w => ?_⟩
          rcases right_cases h with ⟨rfl, g1, g2⟩ | ⟨e, _⟩ | ⟨e, _⟩ | ⟨e, _⟩
          · have hb : belowB 0 v = decide (v < 0) := by simp [belowB]
            rw [hb]
            exact refText_fin v w g1 g2
          · exact absurd e k1
          · exact absurd e k2
          · exact absurd e k3
end Go.Proofs.YtmaefnmjfkbplaaGreatDoor
