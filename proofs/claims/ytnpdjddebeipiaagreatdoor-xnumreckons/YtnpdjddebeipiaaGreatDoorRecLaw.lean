/- The law XnumReckons. -/
import Derived.Test.YtnpdjddebeipiaaGreatDoorRecTwo
import Derived.Test.YtnpdjddebeipiaaGreatDoorRecInv
import Derived.Test.YtnpdjddebeipiaaGreatDoorGam
import Derived.Test.YtnpdjddebeipiaaGreatDoorNumLive
namespace Go.Proofs.YtnpdjddebeipiaaGreatDoor
open Go.RowKit
theorem _root_.Go.RowKit.Below.of_drewR {W w : World} (h : Below W.drew.heap.size W.drew w) : Below W.heap.size W w := Below.then ((Below.refl _ W).drew) h
/-- What is loaded and told in the law's first row. -/
def reckV (k v l u : Int) (K U : Nat → Int) (i : Nat) : Value := if i % 3 = 2 then .agg #[.int .i64 (K (i / 3)), .int .i64 (U (i / 3))] else if i % 3 = 0 then .agg #[.int .i64 k, .int .i64 v] else .agg #[.int .i64 l, .int .i64 u]
/-- Worlds in which both numbers and the five told ones lie. -/
structure ClsR (X : World) (p q : Nat) (k v l u : Int) (bs : Nat → Nat) (K U : Nat → Int) (w : World) : Prop where
  bel : Below X.heap.size X w
  a : NumAt w p k v
  b : NumAt w q l u
  n : ∀ j, j < 5 → NumAt w (bs j) (K j) (U j)
theorem ClsR.below {X w w' : World} {p q : Nat} {k v l u : Int} {bs : Nat → Nat} {K U : Nat → Int} (h : ClsR X p q k v l u bs K U w) (hb : Below w.heap.size w w') : ClsR X p q k v l u bs K U w' :=
  ⟨Below.then h.bel hb, h.a.below hb, h.b.below hb, fun j hj => (h.n j hj).below hb⟩
set_option maxRecDepth 100000 in
set_option maxHeartbeats 8000000 in
theorem reckons_walk1 (k v l u : Int) (K U : Nat → Int) (w : World) (hE : NumEnv w)
    (h0 : Op2 4 k v l u (K 0) (U 0))
    (h1 : Op2 5 k v l u (K 1) (U 1))
    (h2 : Op2 6 k v l u (K 2) (U 2))
    (h3 : Op2 7 k v l u (K 3) (U 3))
    (h4 : Op2 8 k v l u (K 4) (U 4))
    (r0 : rightB k v = true → rightB l u = true → Op2 11 k v l u (K 0) (U 0))
    (r1 : rightB k v = true → rightB l u = true → Op2 12 k v l u (K 1) (U 1))
    (r2 : rightB k v = true → rightB l u = true → Op2 13 k v l u (K 2) (U 2))
    (r3 : rightB k v = true → rightB l u = true → Op2 14 k v l u (K 3) (U 3))
    (r4 : rightB k v = true → rightB l u = true → Op2 15 k v l u (K 4) (U 4)) :
    Calls Tryz.prog 3 #[.agg #[.int .i64 k, .int .i64 v], .agg #[.int .i64 l, .int .i64 u]] w fun e w' => e = .returned (.bool true) ∧ Below w.heap.size w w' := by
  have HE := hide hE
  have H0 := hide h0
  have R0 := hide r0
  have H1 := hide h1
  have R1 := hide r1
  have H2 := hide h2
  have R2 := hide r2
  have H3 := hide h3
  have R3 := hide r3
  have H4 := hide h4
  have R4 := hide r4
  clear hE h0 h1 h2 h3 h4 r0 r1 r2 r3 r4
  have hb0 : Below w.heap.size w ((w.alloc (.cells #[.int .i64 k, .int .i64 v] 24)).alloc (.cells #[.int .i64 l, .int .i64 u] 24)) := by
    (repeat first | exact Below.refl _ _ | assumption | refine Below.drew ?_ | refine Below.alloc ?_ (by simp <;> omega) _ | refine Below.setCell ?_ (by simp <;> omega) _)
  have hA : NumAt ((w.alloc (.cells #[.int .i64 k, .int .i64 v] 24)).alloc (.cells #[.int .i64 l, .int .i64 u] 24)) w.heap.size k v := ⟨by simp [go_sem], by simp [go_sem], by simp [go_sem], by simp [go_sem]⟩
  have hB : NumAt ((w.alloc (.cells #[.int .i64 k, .int .i64 v] 24)).alloc (.cells #[.int .i64 l, .int .i64 u] 24)) (w.heap.size + 1) l u := ⟨by simp [go_sem], by simp [go_sem], by simp [go_sem], by simp [go_sem]⟩
  go_enter Tryz.func3, Tryz.ntmps3
  go_wp2_with fail
  generalize ((w.alloc (.cells #[.int .i64 k, .int .i64 v] 24)).alloc (.cells #[.int .i64 l, .int .i64 u] 24)) = W at hb0 hA hB ⊢
  have HA := hide hA
  have HB := hide hB
  obtain ⟨a0, a1, _, _⟩ := hA
  obtain ⟨b0, b1, _, _⟩ := hB
  have HB0 := hide hb0
  clear hb0
  go_cut [5, 6, 7, 8, 9] (fun s5 s6 s7 s8 s9 wx => ∃ bs : Nat → Nat, s5 = .pointer (some ⟨bs 0, 0, none⟩) ∧ s6 = .pointer (some ⟨bs 1, 0, none⟩) ∧ s7 = .pointer (some ⟨bs 2, 0, none⟩) ∧ s8 = .pointer (some ⟨bs 3, 0, none⟩) ∧ s9 = .pointer (some ⟨bs 4, 0, none⟩) ∧ (∀ j, j < 5 → NumAt wx (bs j) (K j) (U j)) ∧ Below W.heap.size W wx)
  case first =>
    refine wp_region_inv2 (by kernel_rfl) (fun A0 X L a' w' => ∃ (f : Nat → Bool) (vs : Nat → Value) (bs : Nat → Nat), FiveInv A0 X (reckV k v l u K U) K U L a' w' f vs bs) ?_ ?_ ?_
    · refine ⟨fun _ => false, fun _ => undef, fun _ => 0, rfl, ?_, Below.refl _ _, (fun _ _ h => by cases h), (fun _ _ h => by cases h), (fun _ _ _ _ _ h => by cases h), (fun _ _ h => by cases h)⟩
      simp only [fiveT, setT, List.foldl, List.setIfInBounds_toArray, List.set_cons_zero, List.set_cons_succ]
    · intro L a' w' hI hr
      obtain ⟨f, vs, bs, H⟩ := hI
      have ha := H.ha
      obtain rfl := H.hL
      have d0 : f 0 = true := by have := not_ready (i := 0) hr rfl (by simp [Region.binds, fiveL]); simpa [fiveL] using this
      have d1 : f 1 = true := by have := not_ready (i := 1) hr rfl (by simp [Region.binds, fiveL, d0]); simpa [fiveL] using this
      have d2 : f 2 = true := by have := not_ready (i := 2) hr rfl (by simp [Region.binds, fiveL, d0, d1]); simpa [fiveL] using this
      have d3 : f 3 = true := by have := not_ready (i := 3) hr rfl (by simp [Region.binds, fiveL, d0, d1, d2]); simpa [fiveL] using this
      have d4 : f 4 = true := by have := not_ready (i := 4) hr rfl (by simp [Region.binds, fiveL, d0, d1, d2, d3]); simpa [fiveL] using this
      have d5 : f 5 = true := by have := not_ready (i := 5) hr rfl (by simp [Region.binds, fiveL, d0, d1, d2, d3, d4]); simpa [fiveL] using this
      have d6 : f 6 = true := by have := not_ready (i := 6) hr rfl (by simp [Region.binds, fiveL, d0, d1, d2, d3, d4, d5]); simpa [fiveL] using this
      have d7 : f 7 = true := by have := not_ready (i := 7) hr rfl (by simp [Region.binds, fiveL, d0, d1, d2, d3, d4, d5, d6]); simpa [fiveL] using this
      have d8 : f 8 = true := by have := not_ready (i := 8) hr rfl (by simp [Region.binds, fiveL, d0, d1, d2, d3, d4, d5, d6, d7]); simpa [fiveL] using this
      have d9 : f 9 = true := by have := not_ready (i := 9) hr rfl (by simp [Region.binds, fiveL, d0, d1, d2, d3, d4, d5, d6, d7, d8]); simpa [fiveL] using this
      have d10 : f 10 = true := by have := not_ready (i := 10) hr rfl (by simp [Region.binds, fiveL, d0, d1, d2, d3, d4, d5, d6, d7, d8, d9]); simpa [fiveL] using this
      have d11 : f 11 = true := by have := not_ready (i := 11) hr rfl (by simp [Region.binds, fiveL, d0, d1, d2, d3, d4, d5, d6, d7, d8, d9, d10]); simpa [fiveL] using this
      have d12 : f 12 = true := by have := not_ready (i := 12) hr rfl (by simp [Region.binds, fiveL, d0, d1, d2, d3, d4, d5, d6, d7, d8, d9, d10, d11]); simpa [fiveL] using this
      have d13 : f 13 = true := by have := not_ready (i := 13) hr rfl (by simp [Region.binds, fiveL, d0, d1, d2, d3, d4, d5, d6, d7, d8, d9, d10, d11, d12]); simpa [fiveL] using this
      have d14 : f 14 = true := by have := not_ready (i := 14) hr rfl (by simp [Region.binds, fiveL, d0, d1, d2, d3, d4, d5, d6, d7, d8, d9, d10, d11, d12, d13]); simpa [fiveL] using this
      have d15 : f 15 = true := by have := not_ready (i := 15) hr rfl (by simp [Region.binds, fiveL, d0, d1, d2, d3, d4, d5, d6, d7, d8, d9, d10, d11, d12, d13, d14]); simpa [fiveL] using this
      have d16 : f 16 = true := by have := not_ready (i := 16) hr rfl (by simp [Region.binds, fiveL, d0, d1, d2, d3, d4, d5, d6, d7, d8, d9, d10, d11, d12, d13, d14, d15]); simpa [fiveL] using this
      have d17 : f 17 = true := by have := not_ready (i := 17) hr rfl (by simp [Region.binds, fiveL, d0, d1, d2, d3, d4, d5, d6, d7, d8, d9, d10, d11, d12, d13, d14, d15, d16]); simpa [fiveL] using this
      have d18 : f 18 = true := by have := not_ready (i := 18) hr rfl (by simp [Region.binds, fiveL, d0, d1, d2, d3, d4, d5, d6, d7, d8, d9, d10, d11, d12, d13, d14, d15, d16, d17]); simpa [fiveL] using this
      have d19 : f 19 = true := by have := not_ready (i := 19) hr rfl (by simp [Region.binds, fiveL, d0, d1, d2, d3, d4, d5, d6, d7, d8, d9, d10, d11, d12, d13, d14, d15, d16, d17, d18]); simpa [fiveL] using this
      have d20 : f 20 = true := by have := not_ready (i := 20) hr rfl (by simp [Region.binds, fiveL, d0, d1, d2, d3, d4, d5, d6, d7, d8, d9, d10, d11, d12, d13, d14, d15, d16, d17, d18, d19]); simpa [fiveL] using this
      have d21 : f 21 = true := by have := not_ready (i := 21) hr rfl (by simp [Region.binds, fiveL, d0, d1, d2, d3, d4, d5, d6, d7, d8, d9, d10, d11, d12, d13, d14, d15, d16, d17, d18, d19, d20]); simpa [fiveL] using this
      have d22 : f 22 = true := by have := not_ready (i := 22) hr rfl (by simp [Region.binds, fiveL, d0, d1, d2, d3, d4, d5, d6, d7, d8, d9, d10, d11, d12, d13, d14, d15, d16, d17, d18, d19, d20, d21]); simpa [fiveL] using this
      have d23 : f 23 = true := by have := not_ready (i := 23) hr rfl (by simp [Region.binds, fiveL, d0, d1, d2, d3, d4, d5, d6, d7, d8, d9, d10, d11, d12, d13, d14, d15, d16, d17, d18, d19, d20, d21, d22]); simpa [fiveL] using this
      have d24 : f 24 = true := by have := not_ready (i := 24) hr rfl (by simp [Region.binds, fiveL, d0, d1, d2, d3, d4, d5, d6, d7, d8, d9, d10, d11, d12, d13, d14, d15, d16, d17, d18, d19, d20, d21, d22, d23]); simpa [fiveL] using this
      have e0 := (H.hq 0 (by decide) d15).ptr
      have e1 := (H.hq 1 (by decide) d16).ptr
      have e2 := (H.hq 2 (by decide) d17).ptr
      have e3 := (H.hq 3 (by decide) d18).ptr
      have e4 := (H.hq 4 (by decide) d19).ptr
      simp only [fiveT, setT, List.foldl, List.setIfInBounds_toArray, List.set_cons_zero, List.set_cons_succ] at ha
      rw [show vs 15 = _ from e0] at ha
      rw [show vs 16 = _ from e1] at ha
      rw [show vs 17 = _ from e2] at ha
      rw [show vs 18 = _ from e3] at ha
      rw [show vs 19 = _ from e4] at ha
      subst ha
      have HN := hide (show (∀ j, j < 5 → NumAt w' (bs j) (K j) (U j)) ∧ Below W.heap.size W w' from ⟨fun j hj => by
        have h1 : f (15 + j) = true ∧ f (20 + j) = true := by
          rcases j with _ | _ | _ | _ | _ | j
          · exact ⟨d15, d20⟩
          · exact ⟨d16, d21⟩
          · exact ⟨d17, d22⟩
          · exact ⟨d18, d23⟩
          · exact ⟨d19, d24⟩
          · omega
        have := (H.hq j hj h1.1).at_
        rw [h1.2] at this
        exact this, H.hb.of_drewR⟩)
      clear H hr e0 e1 e2 e3 e4
      clear d0 d1 d2 d3 d4 d5 d6 d7 d8 d9 d10 d11 d12 d13 d14 d15 d16 d17 d18 d19 d20 d21 d22 d23 d24
      try go_wp2_with fail
      go_meet
      exact ⟨bs, rfl, rfl, rfl, rfl, rfl, (unhide HN).1, (unhide HN).2⟩
    · intro L a' w' i hI hi
      have hlt : i < 25 := by obtain ⟨_, o, ho, _⟩ := mem_ready.1 hi; exact (Array.getElem?_eq_some_iff.1 ho).1
      obtain ⟨f, vs, bs, H⟩ := hI
      have ha := H.ha
      obtain rfl := H.hL
      simp only [fiveT, setT, List.foldl, List.setIfInBounds_toArray, List.set_cons_zero, List.set_cons_succ] at ha
      have hcs : i = 0 ∨ i = 1 ∨ i = 2 ∨ i = 3 ∨ i = 4 ∨ i = 5 ∨ i = 6 ∨ i = 7 ∨ i = 8 ∨ i = 9 ∨ i = 10 ∨ i = 11 ∨ i = 12 ∨ i = 13 ∨ i = 14 ∨ i = 15 ∨ i = 16 ∨ i = 17 ∨ i = 18 ∨ i = 19 ∨ i = 20 ∨ i = 21 ∨ i = 22 ∨ i = 23 ∨ i = 24 := by omega
      clear hlt
      rcases hcs with rfl | rfl | rfl | rfl | rfl | rfl | rfl | rfl | rfl | rfl | rfl | rfl | rfl | rfl | rfl | rfl | rfl | rfl | rfl | rfl | rfl | rfl | rfl | rfl | rfl
      · -- step 0
        have g0 := kept_cell H.hb a0
        have g1 := kept_cell H.hb a1
        subst ha
        refine wpOp_step rfl (fun K1 hK => ?_)
        go_simp
        refine hK _ _ ⟨upd f 0 true, upd vs 0 (reckV k v l u K U 0), bs, H.got 0 (by decide) (Below.refl _ _) (fiveL_upd f 0 (by decide)) ?_⟩
        simp only [fiveT, setT, List.foldl, List.setIfInBounds_toArray, List.set_cons_zero, List.set_cons_succ, upd]
        rfl
      · -- step 1
        have g0 := kept_cell H.hb b0
        have g1 := kept_cell H.hb b1
        subst ha
        refine wpOp_step rfl (fun K1 hK => ?_)
        go_simp
        refine hK _ _ ⟨upd f 1 true, upd vs 1 (reckV k v l u K U 1), bs, H.got 1 (by decide) (Below.refl _ _) (fiveL_upd f 1 (by decide)) ?_⟩
        simp only [fiveT, setT, List.foldl, List.setIfInBounds_toArray, List.set_cons_zero, List.set_cons_succ, upd]
        rfl
      · -- step 2
        have d0 : f 0 = true := by have := dep_done hi rfl (j := 0) (g := .data) (by simp) rfl; simpa [fiveL] using this
        have d1 : f 1 = true := by have := dep_done hi rfl (j := 1) (g := .data) (by simp) rfl; simpa [fiveL] using this
        have e0 : vs 0 = .agg #[.int .i64 k, .int .i64 v] := H.hv 0 (by decide) d0
        have e1 : vs 1 = .agg #[.int .i64 l, .int .i64 u] := H.hv 1 (by decide) d1
        subst ha
        refine wpOp_step rfl (fun K1 hK => ?_)
        rw [e0, e1]
        go_simp
        refine (unhide H0 _).mono ?_
        rintro e w1 ⟨rfl, hb1⟩
        refine hK _ _ ⟨upd f 2 true, upd vs 2 (reckV k v l u K U 2), bs, H.got 2 (by decide) hb1 (fiveL_upd f 2 (by decide)) ?_⟩
        simp only [fiveT, setT, List.foldl, List.setIfInBounds_toArray, List.set_cons_zero, List.set_cons_succ, upd, e0, e1]
        rfl
      · -- step 3
        have g0 := kept_cell H.hb a0
        have g1 := kept_cell H.hb a1
        subst ha
        refine wpOp_step rfl (fun K1 hK => ?_)
        go_simp
        refine hK _ _ ⟨upd f 3 true, upd vs 3 (reckV k v l u K U 3), bs, H.got 3 (by decide) (Below.refl _ _) (fiveL_upd f 3 (by decide)) ?_⟩
        simp only [fiveT, setT, List.foldl, List.setIfInBounds_toArray, List.set_cons_zero, List.set_cons_succ, upd]
        rfl
      · -- step 4
        have g0 := kept_cell H.hb b0
        have g1 := kept_cell H.hb b1
        subst ha
        refine wpOp_step rfl (fun K1 hK => ?_)
        go_simp
        refine hK _ _ ⟨upd f 4 true, upd vs 4 (reckV k v l u K U 4), bs, H.got 4 (by decide) (Below.refl _ _) (fiveL_upd f 4 (by decide)) ?_⟩
        simp only [fiveT, setT, List.foldl, List.setIfInBounds_toArray, List.set_cons_zero, List.set_cons_succ, upd]
        rfl
      · -- step 5
        have d3 : f 3 = true := by have := dep_done hi rfl (j := 3) (g := .data) (by simp) rfl; simpa [fiveL] using this
        have d4 : f 4 = true := by have := dep_done hi rfl (j := 4) (g := .data) (by simp) rfl; simpa [fiveL] using this
        have e0 : vs 3 = .agg #[.int .i64 k, .int .i64 v] := H.hv 3 (by decide) d3
        have e1 : vs 4 = .agg #[.int .i64 l, .int .i64 u] := H.hv 4 (by decide) d4
        subst ha
        refine wpOp_step rfl (fun K1 hK => ?_)
        rw [e0, e1]
        go_simp
        refine (unhide H1 _).mono ?_
        rintro e w1 ⟨rfl, hb1⟩
        refine hK _ _ ⟨upd f 5 true, upd vs 5 (reckV k v l u K U 5), bs, H.got 5 (by decide) hb1 (fiveL_upd f 5 (by decide)) ?_⟩
        simp only [fiveT, setT, List.foldl, List.setIfInBounds_toArray, List.set_cons_zero, List.set_cons_succ, upd, e0, e1]
        rfl
      · -- step 6
        have g0 := kept_cell H.hb a0
        have g1 := kept_cell H.hb a1
        subst ha
        refine wpOp_step rfl (fun K1 hK => ?_)
        go_simp
        refine hK _ _ ⟨upd f 6 true, upd vs 6 (reckV k v l u K U 6), bs, H.got 6 (by decide) (Below.refl _ _) (fiveL_upd f 6 (by decide)) ?_⟩
        simp only [fiveT, setT, List.foldl, List.setIfInBounds_toArray, List.set_cons_zero, List.set_cons_succ, upd]
        rfl
      · -- step 7
        have g0 := kept_cell H.hb b0
        have g1 := kept_cell H.hb b1
        subst ha
        refine wpOp_step rfl (fun K1 hK => ?_)
        go_simp
        refine hK _ _ ⟨upd f 7 true, upd vs 7 (reckV k v l u K U 7), bs, H.got 7 (by decide) (Below.refl _ _) (fiveL_upd f 7 (by decide)) ?_⟩
        simp only [fiveT, setT, List.foldl, List.setIfInBounds_toArray, List.set_cons_zero, List.set_cons_succ, upd]
        rfl
      · -- step 8
        have d6 : f 6 = true := by have := dep_done hi rfl (j := 6) (g := .data) (by simp) rfl; simpa [fiveL] using this
        have d7 : f 7 = true := by have := dep_done hi rfl (j := 7) (g := .data) (by simp) rfl; simpa [fiveL] using this
        have e0 : vs 6 = .agg #[.int .i64 k, .int .i64 v] := H.hv 6 (by decide) d6
        have e1 : vs 7 = .agg #[.int .i64 l, .int .i64 u] := H.hv 7 (by decide) d7
        subst ha
        refine wpOp_step rfl (fun K1 hK => ?_)
        rw [e0, e1]
        go_simp
        refine (unhide H2 _).mono ?_
        rintro e w1 ⟨rfl, hb1⟩
        refine hK _ _ ⟨upd f 8 true, upd vs 8 (reckV k v l u K U 8), bs, H.got 8 (by decide) hb1 (fiveL_upd f 8 (by decide)) ?_⟩
        simp only [fiveT, setT, List.foldl, List.setIfInBounds_toArray, List.set_cons_zero, List.set_cons_succ, upd, e0, e1]
        rfl
      · -- step 9
        have g0 := kept_cell H.hb a0
        have g1 := kept_cell H.hb a1
        subst ha
        refine wpOp_step rfl (fun K1 hK => ?_)
        go_simp
        refine hK _ _ ⟨upd f 9 true, upd vs 9 (reckV k v l u K U 9), bs, H.got 9 (by decide) (Below.refl _ _) (fiveL_upd f 9 (by decide)) ?_⟩
        simp only [fiveT, setT, List.foldl, List.setIfInBounds_toArray, List.set_cons_zero, List.set_cons_succ, upd]
        rfl
      · -- step 10
        have g0 := kept_cell H.hb b0
        have g1 := kept_cell H.hb b1
        subst ha
        refine wpOp_step rfl (fun K1 hK => ?_)
        go_simp
        refine hK _ _ ⟨upd f 10 true, upd vs 10 (reckV k v l u K U 10), bs, H.got 10 (by decide) (Below.refl _ _) (fiveL_upd f 10 (by decide)) ?_⟩
        simp only [fiveT, setT, List.foldl, List.setIfInBounds_toArray, List.set_cons_zero, List.set_cons_succ, upd]
        rfl
      · -- step 11
        have d9 : f 9 = true := by have := dep_done hi rfl (j := 9) (g := .data) (by simp) rfl; simpa [fiveL] using this
        have d10 : f 10 = true := by have := dep_done hi rfl (j := 10) (g := .data) (by simp) rfl; simpa [fiveL] using this
        have e0 : vs 9 = .agg #[.int .i64 k, .int .i64 v] := H.hv 9 (by decide) d9
        have e1 : vs 10 = .agg #[.int .i64 l, .int .i64 u] := H.hv 10 (by decide) d10
        subst ha
        refine wpOp_step rfl (fun K1 hK => ?_)
        rw [e0, e1]
        go_simp
        refine (unhide H3 _).mono ?_
        rintro e w1 ⟨rfl, hb1⟩
        refine hK _ _ ⟨upd f 11 true, upd vs 11 (reckV k v l u K U 11), bs, H.got 11 (by decide) hb1 (fiveL_upd f 11 (by decide)) ?_⟩
        simp only [fiveT, setT, List.foldl, List.setIfInBounds_toArray, List.set_cons_zero, List.set_cons_succ, upd, e0, e1]
        rfl
      · -- step 12
        have g0 := kept_cell H.hb a0
        have g1 := kept_cell H.hb a1
        subst ha
        refine wpOp_step rfl (fun K1 hK => ?_)
        go_simp
        refine hK _ _ ⟨upd f 12 true, upd vs 12 (reckV k v l u K U 12), bs, H.got 12 (by decide) (Below.refl _ _) (fiveL_upd f 12 (by decide)) ?_⟩
        simp only [fiveT, setT, List.foldl, List.setIfInBounds_toArray, List.set_cons_zero, List.set_cons_succ, upd]
        rfl
      · -- step 13
        have g0 := kept_cell H.hb b0
        have g1 := kept_cell H.hb b1
        subst ha
        refine wpOp_step rfl (fun K1 hK => ?_)
        go_simp
        refine hK _ _ ⟨upd f 13 true, upd vs 13 (reckV k v l u K U 13), bs, H.got 13 (by decide) (Below.refl _ _) (fiveL_upd f 13 (by decide)) ?_⟩
        simp only [fiveT, setT, List.foldl, List.setIfInBounds_toArray, List.set_cons_zero, List.set_cons_succ, upd]
        rfl
      · -- step 14
        have d12 : f 12 = true := by have := dep_done hi rfl (j := 12) (g := .data) (by simp) rfl; simpa [fiveL] using this
        have d13 : f 13 = true := by have := dep_done hi rfl (j := 13) (g := .data) (by simp) rfl; simpa [fiveL] using this
        have e0 : vs 12 = .agg #[.int .i64 k, .int .i64 v] := H.hv 12 (by decide) d12
        have e1 : vs 13 = .agg #[.int .i64 l, .int .i64 u] := H.hv 13 (by decide) d13
        subst ha
        refine wpOp_step rfl (fun K1 hK => ?_)
        rw [e0, e1]
        go_simp
        refine (unhide H4 _).mono ?_
        rintro e w1 ⟨rfl, hb1⟩
        refine hK _ _ ⟨upd f 14 true, upd vs 14 (reckV k v l u K U 14), bs, H.got 14 (by decide) hb1 (fiveL_upd f 14 (by decide)) ?_⟩
        simp only [fiveT, setT, List.foldl, List.setIfInBounds_toArray, List.set_cons_zero, List.set_cons_succ, upd, e0, e1]
        rfl
      · -- step 15
        have h0 : f 15 = false := by have := (mem_ready.1 hi).1; simpa [fiveL] using this
        subst ha
        refine wpOp_step rfl (fun K1 hK => ?_)
        go_simp
        refine hK _ _ ⟨upd f 15 true, upd vs 15 (.pointer (some ⟨w'.heap.size, 0, none⟩)), upd bs 0 w'.heap.size, H.made 0 (by decide) h0 (fiveL_upd f 15 (by decide)) ?_⟩
        simp only [fiveT, setT, List.foldl, List.setIfInBounds_toArray, List.set_cons_zero, List.set_cons_succ, upd]
        rfl
      · -- step 16
        have h0 : f 16 = false := by have := (mem_ready.1 hi).1; simpa [fiveL] using this
        subst ha
        refine wpOp_step rfl (fun K1 hK => ?_)
        go_simp
        refine hK _ _ ⟨upd f 16 true, upd vs 16 (.pointer (some ⟨w'.heap.size, 0, none⟩)), upd bs 1 w'.heap.size, H.made 1 (by decide) h0 (fiveL_upd f 16 (by decide)) ?_⟩
        simp only [fiveT, setT, List.foldl, List.setIfInBounds_toArray, List.set_cons_zero, List.set_cons_succ, upd]
        rfl
      · -- step 17
        have h0 : f 17 = false := by have := (mem_ready.1 hi).1; simpa [fiveL] using this
        subst ha
        refine wpOp_step rfl (fun K1 hK => ?_)
        go_simp
        refine hK _ _ ⟨upd f 17 true, upd vs 17 (.pointer (some ⟨w'.heap.size, 0, none⟩)), upd bs 2 w'.heap.size, H.made 2 (by decide) h0 (fiveL_upd f 17 (by decide)) ?_⟩
        simp only [fiveT, setT, List.foldl, List.setIfInBounds_toArray, List.set_cons_zero, List.set_cons_succ, upd]
        rfl
      · -- step 18
        have h0 : f 18 = false := by have := (mem_ready.1 hi).1; simpa [fiveL] using this
        subst ha
        refine wpOp_step rfl (fun K1 hK => ?_)
        go_simp
        refine hK _ _ ⟨upd f 18 true, upd vs 18 (.pointer (some ⟨w'.heap.size, 0, none⟩)), upd bs 3 w'.heap.size, H.made 3 (by decide) h0 (fiveL_upd f 18 (by decide)) ?_⟩
        simp only [fiveT, setT, List.foldl, List.setIfInBounds_toArray, List.set_cons_zero, List.set_cons_succ, upd]
        rfl
      · -- step 19
        have h0 : f 19 = false := by have := (mem_ready.1 hi).1; simpa [fiveL] using this
        subst ha
        refine wpOp_step rfl (fun K1 hK => ?_)
        go_simp
        refine hK _ _ ⟨upd f 19 true, upd vs 19 (.pointer (some ⟨w'.heap.size, 0, none⟩)), upd bs 4 w'.heap.size, H.made 4 (by decide) h0 (fiveL_upd f 19 (by decide)) ?_⟩
        simp only [fiveT, setT, List.foldl, List.setIfInBounds_toArray, List.set_cons_zero, List.set_cons_succ, upd]
        rfl
      · -- step 20
        have d15 : f 15 = true := by have := dep_done hi rfl (j := 15) (g := .data) (by simp) rfl; simpa [fiveL] using this
        have d2 : f 2 = true := by have := dep_done hi rfl (j := 2) (g := .data) (by simp) rfl; simpa [fiveL] using this
        have B := H.hq 0 (by decide) d15
        have e0 : vs 15 = _ := B.ptr
        have e1 : vs 2 = .agg #[.int .i64 (K 0), .int .i64 (U 0)] := H.hv 2 (by decide) d2
        obtain ⟨m0, m1, m2, m3⟩ := B.at_
        subst ha
        refine wpOp_step rfl (fun K1 hK => ?_)
        rw [e0, e1]
        go_simp
        refine hK _ (putN w' (bs 0) (K 0) (U 0)) ⟨upd f 20 true, vs, bs, H.kept 0 (by decide) d15 (fiveL_upd f 20 (by decide)) ?_⟩
        simp only [fiveT, setT, List.foldl, List.setIfInBounds_toArray, List.set_cons_zero, List.set_cons_succ, e0, e1]
        try rfl
      · -- step 21
        have d16 : f 16 = true := by have := dep_done hi rfl (j := 16) (g := .data) (by simp) rfl; simpa [fiveL] using this
        have d5 : f 5 = true := by have := dep_done hi rfl (j := 5) (g := .data) (by simp) rfl; simpa [fiveL] using this
        have B := H.hq 1 (by decide) d16
        have e0 : vs 16 = _ := B.ptr
        have e1 : vs 5 = .agg #[.int .i64 (K 1), .int .i64 (U 1)] := H.hv 5 (by decide) d5
        obtain ⟨m0, m1, m2, m3⟩ := B.at_
        subst ha
        refine wpOp_step rfl (fun K1 hK => ?_)
        rw [e0, e1]
        go_simp
        refine hK _ (putN w' (bs 1) (K 1) (U 1)) ⟨upd f 21 true, vs, bs, H.kept 1 (by decide) d16 (fiveL_upd f 21 (by decide)) ?_⟩
        simp only [fiveT, setT, List.foldl, List.setIfInBounds_toArray, List.set_cons_zero, List.set_cons_succ, e0, e1]
        try rfl
      · -- step 22
        have d17 : f 17 = true := by have := dep_done hi rfl (j := 17) (g := .data) (by simp) rfl; simpa [fiveL] using this
        have d8 : f 8 = true := by have := dep_done hi rfl (j := 8) (g := .data) (by simp) rfl; simpa [fiveL] using this
        have B := H.hq 2 (by decide) d17
        have e0 : vs 17 = _ := B.ptr
        have e1 : vs 8 = .agg #[.int .i64 (K 2), .int .i64 (U 2)] := H.hv 8 (by decide) d8
        obtain ⟨m0, m1, m2, m3⟩ := B.at_
        subst ha
        refine wpOp_step rfl (fun K1 hK => ?_)
        rw [e0, e1]
        go_simp
        refine hK _ (putN w' (bs 2) (K 2) (U 2)) ⟨upd f 22 true, vs, bs, H.kept 2 (by decide) d17 (fiveL_upd f 22 (by decide)) ?_⟩
        simp only [fiveT, setT, List.foldl, List.setIfInBounds_toArray, List.set_cons_zero, List.set_cons_succ, e0, e1]
        try rfl
      · -- step 23
        have d18 : f 18 = true := by have := dep_done hi rfl (j := 18) (g := .data) (by simp) rfl; simpa [fiveL] using this
        have d11 : f 11 = true := by have := dep_done hi rfl (j := 11) (g := .data) (by simp) rfl; simpa [fiveL] using this
        have B := H.hq 3 (by decide) d18
        have e0 : vs 18 = _ := B.ptr
        have e1 : vs 11 = .agg #[.int .i64 (K 3), .int .i64 (U 3)] := H.hv 11 (by decide) d11
        obtain ⟨m0, m1, m2, m3⟩ := B.at_
        subst ha
        refine wpOp_step rfl (fun K1 hK => ?_)
        rw [e0, e1]
        go_simp
        refine hK _ (putN w' (bs 3) (K 3) (U 3)) ⟨upd f 23 true, vs, bs, H.kept 3 (by decide) d18 (fiveL_upd f 23 (by decide)) ?_⟩
        simp only [fiveT, setT, List.foldl, List.setIfInBounds_toArray, List.set_cons_zero, List.set_cons_succ, e0, e1]
        try rfl
      · -- step 24
        have d19 : f 19 = true := by have := dep_done hi rfl (j := 19) (g := .data) (by simp) rfl; simpa [fiveL] using this
        have d14 : f 14 = true := by have := dep_done hi rfl (j := 14) (g := .data) (by simp) rfl; simpa [fiveL] using this
        have B := H.hq 4 (by decide) d19
        have e0 : vs 19 = _ := B.ptr
        have e1 : vs 14 = .agg #[.int .i64 (K 4), .int .i64 (U 4)] := H.hv 14 (by decide) d14
        obtain ⟨m0, m1, m2, m3⟩ := B.at_
        subst ha
        refine wpOp_step rfl (fun K1 hK => ?_)
        rw [e0, e1]
        go_simp
        refine hK _ (putN w' (bs 4) (K 4) (U 4)) ⟨upd f 24 true, vs, bs, H.kept 4 (by decide) d19 (fiveL_upd f 24 (by decide)) ?_⟩
        simp only [fiveT, setT, List.foldl, List.setIfInBounds_toArray, List.set_cons_zero, List.set_cons_succ, e0, e1]
        try rfl
  case rest =>
    obtain ⟨bs, rfl, rfl, rfl, rfl, rfl, hN, hbx⟩ := hcut
    have hC0 : ClsR W w.heap.size (w.heap.size + 1) k v l u bs K U wc := ⟨hbx, (unhide HA).below hbx, (unhide HB).below hbx, hN⟩
    have HC0 := hide hC0
    obtain ⟨a0, a1, _, _⟩ := hC0.a
    obtain ⟨b0, b1, _, _⟩ := hC0.b
    clear hN hbx hC0 H0 H1 H2 H3 H4 HA HB
    go_wp2_with fail
    refine (right_any _ _ _ _ _).mono ?_
    rintro e w2 ⟨rfl, hb2⟩
    have HC2 := hide ((unhide HC0).below hb2)
    clear hb2 HC0 a0 a1 b0 b1
    have hW : Below w.heap.size w w2 := Below.then (unhide HB0) (unhide HC2).bel
    cases hr : (rightB k v && rightB l u)
    · clear R0 R1 R2 R3 R4
      go_wp2_with fail
      refine (live_any _ ((unhide HE).below hW)).mono ?_
      rintro e w3 ⟨rfl, hb3⟩
      go_wp2
      go_ret
      exact ⟨rfl, Below.then hW hb3⟩
    · have hr' : rightB k v = true ∧ rightB l u = true := by simpa using hr
      have Q0 := hide (unhide R0 hr'.1 hr'.2)
      have Q1 := hide (unhide R1 hr'.1 hr'.2)
      have Q2 := hide (unhide R2 hr'.1 hr'.2)
      have Q3 := hide (unhide R3 hr'.1 hr'.2)
      have Q4 := hide (unhide R4 hr'.1 hr'.2)
      clear R0 R1 R2 R3 R4 hr'
      have HW := hide hW
      clear hW
      go_wp2_with fail
      have HX := hide (show ClsR w2 w.heap.size (w.heap.size + 1) k v l u bs K U w2.drew from ⟨(Below.refl _ _).drew, (unhide HC2).a.below (Below.refl _ _).drew, (unhide HC2).b.below (Below.refl _ _).drew, fun j hj => ((unhide HC2).n j hj).below (Below.refl _ _).drew⟩)
      clear HC2 HB0
      refine wp_region_cls (ClsR w2 w.heap.size (w.heap.size + 1) k v l u bs K U) (by kernel_rfl) (by kernel_rfl) (unhide HX) ?_
      repeat
        (first
          | go_big_quiet_skip
          | (go_big_quiet_want
             go_big_quiet_op
             first
               | go_big_quiet_on
               | (apply Exists.intro
                  refine ⟨fun w' hC => ?_, ?_⟩
                  · (first
                      | (go_at_call 10; refine (live_any _ ((unhide HE).below (Below.then (unhide HW) hC.bel))).mono ?_; rintro e w3 ⟨rfl, hb3⟩; exact ⟨rfl, hC.below hb3⟩)
                      | (go_at_call 11; refine (unhide Q0 _).mono ?_; rintro e w3 ⟨rfl, hb3⟩; exact ⟨rfl, hC.below hb3⟩)
                      | (go_at_call 12; refine (unhide Q1 _).mono ?_; rintro e w3 ⟨rfl, hb3⟩; exact ⟨rfl, hC.below hb3⟩)
                      | (go_at_call 13; refine (unhide Q2 _).mono ?_; rintro e w3 ⟨rfl, hb3⟩; exact ⟨rfl, hC.below hb3⟩)
                      | (go_at_call 14; refine (unhide Q3 _).mono ?_; rintro e w3 ⟨rfl, hb3⟩; exact ⟨rfl, hC.below hb3⟩)
                      | (go_at_call 15; refine (unhide Q4 _).mono ?_; rintro e w3 ⟨rfl, hb3⟩; exact ⟨rfl, hC.below hb3⟩)
                      | (go_at_call 16; refine (neg_any _ _ _).mono ?_; rintro e w3 ⟨rfl, hb3⟩; exact ⟨rfl, hC.below hb3⟩)
                      | (go_at_call 17; refine (refNeg_any _ _ _).mono ?_; rintro e w3 ⟨rfl, hb3⟩; exact ⟨rfl, hC.below hb3⟩)
                      | (obtain ⟨c0, c1, _, _⟩ := hC.a; obtain ⟨d0, d1, _, _⟩ := hC.b; obtain ⟨x0, y0, _, _⟩ := hC.n 0 (by decide); obtain ⟨x1, y1, _, _⟩ := hC.n 1 (by decide); obtain ⟨x2, y2, _, _⟩ := hC.n 2 (by decide); obtain ⟨x3, y3, _, _⟩ := hC.n 3 (by decide); obtain ⟨x4, y4, _, _⟩ := hC.n 4 (by decide); go_simp; first | done | rfl)
                      | (go_simp; first | done | rfl))
                  go_big_quiet_on)))
      refine wpQuiet_nil ?_
      intro w4 hC4
      have hW4 := Below.then (unhide HW) hC4.bel
      clear hC4 HX
      go_wp2
      go_ret
      exact ⟨rfl, hW4⟩
theorem reckons_walk (k v l u : Int) (w : World) (hE : NumEnv w) (hv1 : -9223372036854775808 ≤ v) (hv2 : v ≤ 9223372036854775807) (hu1 : -9223372036854775808 ≤ u) (hu2 : u ≤ 9223372036854775807) :
    Calls Tryz.prog 3 #[.agg #[.int .i64 k, .int .i64 v], .agg #[.int .i64 l, .int .i64 u]] w fun e w' => e = .returned (.bool true) ∧ Below w.heap.size w w' := by
  obtain ⟨K0, U0, a0, b0⟩ := add_two k v l u
  obtain ⟨K1, U1, a1, b1⟩ := sub_two k v l u
  obtain ⟨K2, U2, a2, b2⟩ := mul_two k v l u hv1 hv2 hu1 hu2
  obtain ⟨K3, U3, a3, b3⟩ := div_two k v l u hv1 hv2 hu1 hu2
  obtain ⟨K4, U4, a4, b4⟩ := mod_two k v l u hv1 hv2 hu1 hu2
  exact reckons_walk1 k v l u (fun i => match i with | 0 => K0 | 1 => K1 | 2 => K2 | 3 => K3 | _ => K4) (fun i => match i with | 0 => U0 | 1 => U1 | 2 => U2 | 3 => U3 | _ => U4) w hE a0 a1 a2 a3 a4 b0 b1 b2 b3 b4
end Go.Proofs.YtnpdjddebeipiaaGreatDoor
