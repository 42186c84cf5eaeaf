/- Whole numbers around one: the law XnumWhole. -/
import Derived.Test.YtigbaoadnonjfaaGreatDoorNumCls
import Derived.Test.YtigbaoadnonjfaaGreatDoorNumRefW
import Derived.Test.YtigbaoadnonjfaaGreatDoorNumNear
namespace Go.Proofs.YtigbaoadnonjfaaGreatDoor
open Go.RowKit
attribute [local go_sem ↓] Go.wp_at_zero Go.wp_at_succ
/-- Worlds in which a number's variable and three more stand. -/
structure ClsW (X : World) (A p q s : Nat) (k v K1 U1 K2 U2 K3 U3 : Int) (w' : World) : Prop where
  bel : Below X.heap.size X w'
  k0 : w'.cell? ⟨A, 0, none⟩ = some (.int .i64 k)
  v0 : w'.cell? ⟨A, 1, none⟩ = some (.int .i64 v)
  f0 : w'.cell? ⟨p, 0, none⟩ = some (.int .i64 K1)
  f1 : w'.cell? ⟨p, 1, none⟩ = some (.int .i64 U1)
  c0 : w'.cell? ⟨q, 0, none⟩ = some (.int .i64 K2)
  c1 : w'.cell? ⟨q, 1, none⟩ = some (.int .i64 U2)
  r0 : w'.cell? ⟨s, 0, none⟩ = some (.int .i64 K3)
  r1 : w'.cell? ⟨s, 1, none⟩ = some (.int .i64 U3)
theorem ClsW.below {X w w' : World} {A p q s : Nat} {k v K1 U1 K2 U2 K3 U3 : Int} (h : ClsW X A p q s k v K1 U1 K2 U2 K3 U3 w) (hb : Below w.heap.size w w') : ClsW X A p q s k v K1 U1 K2 U2 K3 U3 w' :=
  ⟨Below.then h.bel hb, kept_cell hb h.k0, kept_cell hb h.v0, kept_cell hb h.f0, kept_cell hb h.f1, kept_cell hb h.c0, kept_cell hb h.c1, kept_cell hb h.r0, kept_cell hb h.r1⟩
theorem ClsW.re {X w : World} {A p q s : Nat} {k v K1 U1 K2 U2 K3 U3 : Int} (h : ClsW X A p q s k v K1 U1 K2 U2 K3 U3 w) : ClsW w A p q s k v K1 U1 K2 U2 K3 U3 w.drew :=
  ⟨(Below.refl _ _).drew, h.k0, h.v0, h.f0, h.f1, h.c0, h.c1, h.r0, h.r1⟩
set_option maxRecDepth 100000 in
set_option maxHeartbeats 4000000 in
theorem whole_core (k v n K1 U1 K2 U2 K3 U3 : Int) (w : World) (hE : NumEnv w) (hn1 : -9223372036854775808 ≤ n) (hn2 : n ≤ 9223372036854775807)
    (F : ∀ w, Calls Tryz.prog 15 #[.agg #[.int .i64 k, .int .i64 v]] w fun e w' => e = .returned (.agg #[.int .i64 K1, .int .i64 U1]) ∧ Below w.heap.size w w')
    (C : ∀ w, Calls Tryz.prog 16 #[.agg #[.int .i64 k, .int .i64 v]] w fun e w' => e = .returned (.agg #[.int .i64 K2, .int .i64 U2]) ∧ Below w.heap.size w w')
    (R : ∀ w, Calls Tryz.prog 17 #[.agg #[.int .i64 k, .int .i64 v]] w fun e w' => e = .returned (.agg #[.int .i64 K3, .int .i64 U3]) ∧ Below w.heap.size w w')
    (F' : rightB k v = true → ∀ w, Calls Tryz.prog 19 #[.agg #[.int .i64 k, .int .i64 v]] w fun e w' => e = .returned (.agg #[.int .i64 K1, .int .i64 U1]) ∧ Below w.heap.size w w')
    (C' : rightB k v = true → ∀ w, Calls Tryz.prog 20 #[.agg #[.int .i64 k, .int .i64 v]] w fun e w' => e = .returned (.agg #[.int .i64 K2, .int .i64 U2]) ∧ Below w.heap.size w w')
    (R' : rightB k v = true → ∀ w, Calls Tryz.prog 21 #[.agg #[.int .i64 k, .int .i64 v]] w fun e w' => e = .returned (.agg #[.int .i64 K3, .int .i64 U3]) ∧ Below w.heap.size w w') :
    Calls Tryz.prog 6 #[.agg #[.int .i64 k, .int .i64 v], .int .i64 n] w fun e w' => e = .returned (.bool true) ∧ Below w.heap.size w w' := by
  have HE := hide hE
  have HF := hide F
  have HC := hide C
  have HR := hide R
  have HF' := hide F'
  have HC' := hide C'
  have HR' := hide R'
  have HI := hide (fun w => int_any n w hn1 hn2)
  have RI := hide (fun w => refInt_any n w hn1 hn2)
  clear hE F C R F' C' R'
  generalize intK n = IK at *
  generalize intV n = IV at *
  go_enter Tryz.func6, Tryz.ntmps6
  go_wp2_with fail
  have hb0 : Below w.heap.size w (w.alloc (.cells #[.int .i64 k, .int .i64 v] 24)) := by
    (repeat first | exact Below.refl _ _ | assumption | refine Below.drew ?_ | refine Below.alloc ?_ (by simp <;> omega) _ | refine Below.setCell ?_ (by simp <;> omega) _)
  have hN : NumAt (w.alloc (.cells #[.int .i64 k, .int .i64 v] 24)) w.heap.size k v := ⟨by simp [go_sem], by simp [go_sem], by simp [go_sem], by simp [go_sem]⟩
  generalize (w.alloc (.cells #[.int .i64 k, .int .i64 v] 24)) = W at hb0 hN ⊢
  have HN := hide hN
  obtain ⟨a0, a1, _, _⟩ := hN
  go_cut [5, 6, 7] (fun s3 s4 s5 wx => ∃ b3 b4 b5 : Nat, s3 = .pointer (some ⟨b3, 0, none⟩) ∧ s4 = .pointer (some ⟨b4, 0, none⟩) ∧ s5 = .pointer (some ⟨b5, 0, none⟩) ∧ NumAt wx b3 K1 U1 ∧ NumAt wx b4 K2 U2 ∧ NumAt wx b5 K3 U3 ∧ Below W.heap.size W wx)
  case first =>
    refine wp_region_inv2 (by kernel_rfl) (fun A0 X L a' w' => ∃ (f0 f1 f2 f3 f4 f5 f6 f7 f8 f9 f10 f11 : Bool) (l0 r1 l2 r3 l4 r5 q6 q7 q8 : Value) (b6 b7 b8 : Nat), L = #[f0, f1, f2, f3, f4, f5, f6, f7, f8, f9, f10, f11] ∧ a' = setT A0 [(8, l0), (9, r1), (10, l2), (11, r3), (12, l4), (13, r5), (5, q6), (6, q7), (7, q8)] ∧ Below X.heap.size X w' ∧ (f0 = true → l0 = .agg #[.int .i64 k, .int .i64 v]) ∧ (f1 = true → r1 = .agg #[.int .i64 K1, .int .i64 U1]) ∧ (f2 = true → l2 = .agg #[.int .i64 k, .int .i64 v]) ∧ (f3 = true → r3 = .agg #[.int .i64 K2, .int .i64 U2]) ∧ (f4 = true → l4 = .agg #[.int .i64 k, .int .i64 v]) ∧ (f5 = true → r5 = .agg #[.int .i64 K3, .int .i64 U3]) ∧ (f6 = true → NumBox w' X b6 q6 f9 K1 U1) ∧ (f7 = true → NumBox w' X b7 q7 f10 K2 U2) ∧ (f8 = true → NumBox w' X b8 q8 f11 K3 U3) ∧ (f6 = true → f7 = true → b6 ≠ b7) ∧ (f6 = true → f8 = true → b6 ≠ b8) ∧ (f7 = true → f8 = true → b7 ≠ b8) ∧ (f9 = true → f6 = true) ∧ (f10 = true → f7 = true) ∧ (f11 = true → f8 = true)) ?_ ?_ ?_
    · exact ⟨false, false, false, false, false, false, false, false, false, false, false, false, undef, undef, undef, undef, undef, undef, undef, undef, undef, 0, 0, 0, rfl, (by simp only [setT, List.foldl, List.setIfInBounds_toArray, List.set_cons_zero, List.set_cons_succ]), Below.refl _ _, (fun h => by cases h), (fun h => by cases h), (fun h => by cases h), (fun h => by cases h), (fun h => by cases h), (fun h => by cases h), (fun h => by cases h), (fun h => by cases h), (fun h => by cases h), (fun h => by cases h), (fun h => by cases h), (fun h => by cases h), (fun h => by cases h), (fun h => by cases h), (fun h => by cases h)⟩
    · intro L a' w' hI hr
      obtain ⟨f0, f1, f2, f3, f4, f5, f6, f7, f8, f9, f10, f11, l0, r1, l2, r3, l4, r5, q6, q7, q8, b6, b7, b8, hL, ha, hb, hl0, hr1, hl2, hr3, hl4, hr5, hq6, hq7, hq8, n6_7, n6_8, n7_8, s9, s10, s11⟩ := hI
      subst hL
      obtain rfl : f0 = true := by have := not_ready (i := 0) hr rfl (by simp [Region.binds]); simpa using this
      obtain rfl : f1 = true := by have := not_ready (i := 1) hr rfl (by simp [Region.binds]); simpa using this
      obtain rfl : f2 = true := by have := not_ready (i := 2) hr rfl (by simp [Region.binds]); simpa using this
      obtain rfl : f3 = true := by have := not_ready (i := 3) hr rfl (by simp [Region.binds]); simpa using this
      obtain rfl : f4 = true := by have := not_ready (i := 4) hr rfl (by simp [Region.binds]); simpa using this
      obtain rfl : f5 = true := by have := not_ready (i := 5) hr rfl (by simp [Region.binds]); simpa using this
      obtain rfl : f6 = true := by have := not_ready (i := 6) hr rfl (by simp [Region.binds]); simpa using this
      obtain rfl : f7 = true := by have := not_ready (i := 7) hr rfl (by simp [Region.binds]); simpa using this
      obtain rfl : f8 = true := by have := not_ready (i := 8) hr rfl (by simp [Region.binds]); simpa using this
      obtain rfl : f9 = true := by have := not_ready (i := 9) hr rfl (by simp [Region.binds]); simpa using this
      obtain rfl : f10 = true := by have := not_ready (i := 10) hr rfl (by simp [Region.binds]); simpa using this
      obtain rfl : f11 = true := by have := not_ready (i := 11) hr rfl (by simp [Region.binds]); simpa using this
      obtain rfl := hl0 rfl
      obtain rfl := hr1 rfl
      obtain rfl := hl2 rfl
      obtain rfl := hr3 rfl
      obtain rfl := hl4 rfl
      obtain rfl := hr5 rfl
      obtain rfl := (hq6 rfl).ptr
      obtain rfl := (hq7 rfl).ptr
      obtain rfl := (hq8 rfl).ptr
      simp only [setT, List.foldl, List.setIfInBounds_toArray, List.set_cons_zero, List.set_cons_succ] at ha
      subst ha
      have B6 := (hq6 rfl).at_
      have B7 := (hq7 rfl).at_
      have B8 := (hq8 rfl).at_
      have hbb := hb.of_drew
      clear hq6 hq7 hq8 hb
      have HB := hide (And.intro B6 (And.intro B7 (And.intro B8 hbb)))
      clear B6 B7 B8 hbb
      try go_wp2_with fail
      go_meet
      exact ⟨_, _, _, rfl, rfl, rfl, (unhide HB).1, (unhide HB).2.1, (unhide HB).2.2.1, (unhide HB).2.2.2⟩
    · intro L a' w' i hI hi
      have hlt : i < 12 := by obtain ⟨_, o, ho, _⟩ := mem_ready.1 hi; exact (Array.getElem?_eq_some_iff.1 ho).1
      obtain ⟨f0, f1, f2, f3, f4, f5, f6, f7, f8, f9, f10, f11, l0, r1, l2, r3, l4, r5, q6, q7, q8, b6, b7, b8, hL, ha, hb, hl0, hr1, hl2, hr3, hl4, hr5, hq6, hq7, hq8, n6_7, n6_8, n7_8, s9, s10, s11⟩ := hI
      subst hL
      simp only [setT, List.foldl, List.setIfInBounds_toArray, List.set_cons_zero, List.set_cons_succ] at ha
      match i, hlt with
      | 0, _ =>
        have g0 := kept_cell hb a0
        have g1 := kept_cell hb a1
        subst ha
        refine wpOp_step rfl (fun K hK => ?_)
        go_simp
        refine hK _ _ ⟨true, f1, f2, f3, f4, f5, f6, f7, f8, f9, f10, f11, .agg #[.int .i64 k, .int .i64 v], r1, l2, r3, l4, r5, q6, q7, q8, b6, b7, b8, rfl, (by simp only [setT, List.foldl, List.setIfInBounds_toArray, List.set_cons_zero, List.set_cons_succ]), (hb), (fun _ => rfl), hr1, hl2, hr3, hl4, hr5, hq6, hq7, hq8, n6_7, n6_8, n7_8, s9, s10, s11⟩
      | 1, _ =>
        obtain rfl : f0 = true := by have := dep_done hi rfl (j := 0) (g := .data) (by simp) rfl; simpa using this
        obtain rfl := hl0 rfl
        subst ha
        refine wpOp_step rfl (fun K hK => ?_)
        go_simp
        refine (unhide HF _).mono ?_
        rintro e w1 ⟨rfl, hb1⟩
        refine hK _ _ ⟨true, true, f2, f3, f4, f5, f6, f7, f8, f9, f10, f11, .agg #[.int .i64 k, .int .i64 v], .agg #[.int .i64 K1, .int .i64 U1], l2, r3, l4, r5, q6, q7, q8, b6, b7, b8, rfl, (by simp only [setT, List.foldl, List.setIfInBounds_toArray, List.set_cons_zero, List.set_cons_succ]), (Below.then hb hb1), hl0, (fun _ => rfl), hl2, hr3, hl4, hr5, (fun h => (hq6 h).below hb1), (fun h => (hq7 h).below hb1), (fun h => (hq8 h).below hb1), n6_7, n6_8, n7_8, s9, s10, s11⟩
      | 2, _ =>
        have g0 := kept_cell hb a0
        have g1 := kept_cell hb a1
        subst ha
        refine wpOp_step rfl (fun K hK => ?_)
        go_simp
        refine hK _ _ ⟨f0, f1, true, f3, f4, f5, f6, f7, f8, f9, f10, f11, l0, r1, .agg #[.int .i64 k, .int .i64 v], r3, l4, r5, q6, q7, q8, b6, b7, b8, rfl, (by simp only [setT, List.foldl, List.setIfInBounds_toArray, List.set_cons_zero, List.set_cons_succ]), (hb), hl0, hr1, (fun _ => rfl), hr3, hl4, hr5, hq6, hq7, hq8, n6_7, n6_8, n7_8, s9, s10, s11⟩
      | 3, _ =>
        obtain rfl : f2 = true := by have := dep_done hi rfl (j := 2) (g := .data) (by simp) rfl; simpa using this
        obtain rfl := hl2 rfl
        subst ha
        refine wpOp_step rfl (fun K hK => ?_)
        go_simp
        refine (unhide HC _).mono ?_
        rintro e w1 ⟨rfl, hb1⟩
        refine hK _ _ ⟨f0, f1, true, true, f4, f5, f6, f7, f8, f9, f10, f11, l0, r1, .agg #[.int .i64 k, .int .i64 v], .agg #[.int .i64 K2, .int .i64 U2], l4, r5, q6, q7, q8, b6, b7, b8, rfl, (by simp only [setT, List.foldl, List.setIfInBounds_toArray, List.set_cons_zero, List.set_cons_succ]), (Below.then hb hb1), hl0, hr1, hl2, (fun _ => rfl), hl4, hr5, (fun h => (hq6 h).below hb1), (fun h => (hq7 h).below hb1), (fun h => (hq8 h).below hb1), n6_7, n6_8, n7_8, s9, s10, s11⟩
      | 4, _ =>
        have g0 := kept_cell hb a0
        have g1 := kept_cell hb a1
        subst ha
        refine wpOp_step rfl (fun K hK => ?_)
        go_simp
        refine hK _ _ ⟨f0, f1, f2, f3, true, f5, f6, f7, f8, f9, f10, f11, l0, r1, l2, r3, .agg #[.int .i64 k, .int .i64 v], r5, q6, q7, q8, b6, b7, b8, rfl, (by simp only [setT, List.foldl, List.setIfInBounds_toArray, List.set_cons_zero, List.set_cons_succ]), (hb), hl0, hr1, hl2, hr3, (fun _ => rfl), hr5, hq6, hq7, hq8, n6_7, n6_8, n7_8, s9, s10, s11⟩
      | 5, _ =>
        obtain rfl : f4 = true := by have := dep_done hi rfl (j := 4) (g := .data) (by simp) rfl; simpa using this
        obtain rfl := hl4 rfl
        subst ha
        refine wpOp_step rfl (fun K hK => ?_)
        go_simp
        refine (unhide HR _).mono ?_
        rintro e w1 ⟨rfl, hb1⟩
        refine hK _ _ ⟨f0, f1, f2, f3, true, true, f6, f7, f8, f9, f10, f11, l0, r1, l2, r3, .agg #[.int .i64 k, .int .i64 v], .agg #[.int .i64 K3, .int .i64 U3], q6, q7, q8, b6, b7, b8, rfl, (by simp only [setT, List.foldl, List.setIfInBounds_toArray, List.set_cons_zero, List.set_cons_succ]), (Below.then hb hb1), hl0, hr1, hl2, hr3, hl4, (fun _ => rfl), (fun h => (hq6 h).below hb1), (fun h => (hq7 h).below hb1), (fun h => (hq8 h).below hb1), n6_7, n6_8, n7_8, s9, s10, s11⟩
      | 6, _ =>
        obtain rfl : f6 = false := by have := (mem_ready.1 hi).1; simpa using this
        obtain rfl : f9 = false := by cases h : f9 with | false => rfl | true => exact (s9 h).symm
        subst ha
        refine wpOp_step rfl (fun K hK => ?_)
        go_simp
        refine hK _ _ ⟨f0, f1, f2, f3, f4, f5, true, f7, f8, false, f10, f11, l0, r1, l2, r3, l4, r5, .pointer (some ⟨w'.heap.size, 0, none⟩), q7, q8, w'.heap.size, b7, b8, rfl, (by simp only [setT, List.foldl, List.setIfInBounds_toArray, List.set_cons_zero, List.set_cons_succ]), (hb.alloc hb.size _), hl0, hr1, hl2, hr3, hl4, hr5, (fun _ => NumBox.new hb.size _ _), (fun h => (hq7 h).below ((Below.refl _ _).alloc (Nat.le_refl _) _)), (fun h => (hq8 h).below ((Below.refl _ _).alloc (Nat.le_refl _) _)), (fun _ h => Nat.ne_of_gt (hq7 h).lt), (fun _ h => Nat.ne_of_gt (hq8 h).lt), n7_8, (fun h => by cases h), (s10), (s11)⟩
      | 7, _ =>
        obtain rfl : f7 = false := by have := (mem_ready.1 hi).1; simpa using this
        obtain rfl : f10 = false := by cases h : f10 with | false => rfl | true => exact (s10 h).symm
        subst ha
        refine wpOp_step rfl (fun K hK => ?_)
        go_simp
        refine hK _ _ ⟨f0, f1, f2, f3, f4, f5, f6, true, f8, f9, false, f11, l0, r1, l2, r3, l4, r5, q6, .pointer (some ⟨w'.heap.size, 0, none⟩), q8, b6, w'.heap.size, b8, rfl, (by simp only [setT, List.foldl, List.setIfInBounds_toArray, List.set_cons_zero, List.set_cons_succ]), (hb.alloc hb.size _), hl0, hr1, hl2, hr3, hl4, hr5, (fun h => (hq6 h).below ((Below.refl _ _).alloc (Nat.le_refl _) _)), (fun _ => NumBox.new hb.size _ _), (fun h => (hq8 h).below ((Below.refl _ _).alloc (Nat.le_refl _) _)), (fun h _ => Nat.ne_of_lt (hq6 h).lt), n6_8, (fun _ h => Nat.ne_of_gt (hq8 h).lt), (s9), (fun h => by cases h), (s11)⟩
      | 8, _ =>
        obtain rfl : f8 = false := by have := (mem_ready.1 hi).1; simpa using this
        obtain rfl : f11 = false := by cases h : f11 with | false => rfl | true => exact (s11 h).symm
        subst ha
        refine wpOp_step rfl (fun K hK => ?_)
        go_simp
        refine hK _ _ ⟨f0, f1, f2, f3, f4, f5, f6, f7, true, f9, f10, false, l0, r1, l2, r3, l4, r5, q6, q7, .pointer (some ⟨w'.heap.size, 0, none⟩), b6, b7, w'.heap.size, rfl, (by simp only [setT, List.foldl, List.setIfInBounds_toArray, List.set_cons_zero, List.set_cons_succ]), (hb.alloc hb.size _), hl0, hr1, hl2, hr3, hl4, hr5, (fun h => (hq6 h).below ((Below.refl _ _).alloc (Nat.le_refl _) _)), (fun h => (hq7 h).below ((Below.refl _ _).alloc (Nat.le_refl _) _)), (fun _ => NumBox.new hb.size _ _), n6_7, (fun h _ => Nat.ne_of_lt (hq6 h).lt), (fun h _ => Nat.ne_of_lt (hq7 h).lt), (s9), (s10), (fun h => by cases h)⟩
      | 9, _ =>
        obtain rfl : f6 = true := by have := dep_done hi rfl (j := 6) (g := .data) (by simp) rfl; simpa using this
        obtain rfl : f1 = true := by have := dep_done hi rfl (j := 1) (g := .data) (by simp) rfl; simpa using this
        obtain rfl := hr1 rfl
        have B := hq6 rfl
        obtain rfl := B.ptr
        obtain ⟨m0, m1, m2, m3⟩ := B.at_
        subst ha
        refine wpOp_step rfl (fun K hK => ?_)
        go_simp
        refine hK _ (putN w' b6 K1 U1) ⟨f0, true, f2, f3, f4, f5, true, f7, f8, true, f10, f11, l0, .agg #[.int .i64 K1, .int .i64 U1], l2, r3, l4, r5, .pointer (some ⟨b6, 0, none⟩), q7, q8, b6, b7, b8, rfl, (by simp only [setT, List.foldl, List.setIfInBounds_toArray, List.set_cons_zero, List.set_cons_succ]), (putN_below hb B.ge K1 U1), hl0, hr1, hl2, hr3, hl4, hr5, (fun _ => B.put), (fun h => (hq7 h).keep (fun e => n6_7 rfl h e.symm) _ _), (fun h => (hq8 h).keep (fun e => n6_8 rfl h e.symm) _ _), n6_7, n6_8, n7_8, (fun _ => rfl), s10, s11⟩
      | 10, _ =>
        obtain rfl : f7 = true := by have := dep_done hi rfl (j := 7) (g := .data) (by simp) rfl; simpa using this
        obtain rfl : f3 = true := by have := dep_done hi rfl (j := 3) (g := .data) (by simp) rfl; simpa using this
        obtain rfl := hr3 rfl
        have B := hq7 rfl
        obtain rfl := B.ptr
        obtain ⟨m0, m1, m2, m3⟩ := B.at_
        subst ha
        refine wpOp_step rfl (fun K hK => ?_)
        go_simp
        refine hK _ (putN w' b7 K2 U2) ⟨f0, f1, f2, true, f4, f5, f6, true, f8, f9, true, f11, l0, r1, l2, .agg #[.int .i64 K2, .int .i64 U2], l4, r5, q6, .pointer (some ⟨b7, 0, none⟩), q8, b6, b7, b8, rfl, (by simp only [setT, List.foldl, List.setIfInBounds_toArray, List.set_cons_zero, List.set_cons_succ]), (putN_below hb B.ge K2 U2), hl0, hr1, hl2, hr3, hl4, hr5, (fun h => (hq6 h).keep (n6_7 h rfl) _ _), (fun _ => B.put), (fun h => (hq8 h).keep (fun e => n7_8 rfl h e.symm) _ _), n6_7, n6_8, n7_8, s9, (fun _ => rfl), s11⟩
      | 11, _ =>
        obtain rfl : f8 = true := by have := dep_done hi rfl (j := 8) (g := .data) (by simp) rfl; simpa using this
        obtain rfl : f5 = true := by have := dep_done hi rfl (j := 5) (g := .data) (by simp) rfl; simpa using this
        obtain rfl := hr5 rfl
        have B := hq8 rfl
        obtain rfl := B.ptr
        obtain ⟨m0, m1, m2, m3⟩ := B.at_
        subst ha
        refine wpOp_step rfl (fun K hK => ?_)
        go_simp
        refine hK _ (putN w' b8 K3 U3) ⟨f0, f1, f2, f3, f4, true, f6, f7, true, f9, f10, true, l0, r1, l2, r3, l4, .agg #[.int .i64 K3, .int .i64 U3], q6, q7, .pointer (some ⟨b8, 0, none⟩), b6, b7, b8, rfl, (by simp only [setT, List.foldl, List.setIfInBounds_toArray, List.set_cons_zero, List.set_cons_succ]), (putN_below hb B.ge K3 U3), hl0, hr1, hl2, hr3, hl4, hr5, (fun h => (hq6 h).keep (n6_8 h rfl) _ _), (fun h => (hq7 h).keep (n7_8 h rfl) _ _), (fun _ => B.put), n6_7, n6_8, n7_8, s9, s10, (fun _ => rfl)⟩
  case rest =>
  obtain ⟨b3, b4, b5, rfl, rfl, rfl, h3, h4, h5, hbx⟩ := hcut
  have h1 := (unhide HN).below hbx
  have hb1 := Below.then hb0 hbx
  have hC : ClsW wc w.heap.size b3 b4 b5 k v K1 U1 K2 U2 K3 U3 wc := ⟨Below.refl _ _, h1.kind, h1.val, h3.kind, h3.val, h4.kind, h4.val, h5.kind, h5.val⟩
  clear HN hbx hb0 a0 a1 HF HC HR h1 h3 h4 h5
  go_wp2_with fail
  refine wp_region_cls (ClsW wc w.heap.size b3 b4 b5 k v K1 U1 K2 U2 K3 U3) (by kernel_rfl) (by kernel_rfl) hC.re ?_
  repeat
    (first
      | go_big_quiet_skip
      | (go_big_quiet_want
         go_big_quiet_op
         first
           | go_big_quiet_on
           | (apply Exists.intro
              refine ⟨fun w' hC => ?_, ?_⟩
              · (first
                  | (go_at_call 18; refine (xright_any _ _ _).mono ?_; rintro e w3 ⟨rfl, hb3⟩; exact ⟨rfl, hC.below hb3⟩)
                  | (go_at_call 9; refine (refRight_any _ _ _).mono ?_; rintro e w3 ⟨rfl, rfl⟩; exact ⟨rfl, hC.below ((Below.refl _ _).alloc (Nat.le_refl _) _)⟩)
                  | (have c0 := hC.k0; have c1 := hC.v0; have c2 := hC.f0; have c3 := hC.f1; have c4 := hC.c0; have c5 := hC.c1; have c6 := hC.r0; have c7 := hC.r1; go_simp; first | done | rfl))
              go_big_quiet_on)))
  refine wpQuiet_nil ?_
  intro w2 hC2
  have hb2 := Below.then hb1 hC2.bel
  clear hb1 hC
  have c0 := hC2.k0
  have c1 := hC2.v0
  go_wp2_with fail
  refine (refRight_any k v _).mono ?_
  rintro e w' ⟨rfl, rfl⟩
  have hC3 := hC2.below ((Below.refl _ _).alloc (Nat.le_refl _) (.cells #[.int .i64 k, .int .i64 v] 24))
  have hb3 : Below w.heap.size w (w2.alloc (.cells #[.int .i64 k, .int .i64 v] 24)) := hb2.alloc hb2.size _
  generalize w2.alloc (.cells #[.int .i64 k, .int .i64 v] 24) = Y at hC3 hb3 ⊢
  clear hC2 c0 c1 hb2
  cases hr : rightB k v
  · go_wp2_with fail
    refine (live_any _ ((unhide HE).below hb3)).mono ?_
    rintro e w6 ⟨rfl, hb6⟩
    go_wp2
    go_ret
    exact ⟨rfl, Below.then hb3 hb6⟩
  · have RF := hide (unhide HF' hr)
    have RC := hide (unhide HC' hr)
    have RR := hide (unhide HR' hr)
    clear HF' HC' HR' hr
    have hb4 := hb3
    clear hb3
    have hC4 := hC3.re
    clear hC3
    go_wp2_with fail
    refine wp_region_cls (ClsW Y w.heap.size b3 b4 b5 k v K1 U1 K2 U2 K3 U3) (by kernel_rfl) (by kernel_rfl) hC4 ?_
    repeat
      (first
        | go_big_quiet_skip
        | (go_big_quiet_want
           go_big_quiet_op
           first
             | go_big_quiet_on
             | (apply Exists.intro
                refine ⟨fun w' hC => ?_, ?_⟩
                · (first
                    | (go_at_call 10; refine (live_any _ ((unhide HE).below (Below.then hb4 hC.bel))).mono ?_; rintro e w3 ⟨rfl, hb3⟩; exact ⟨rfl, hC.below hb3⟩)
                    | (go_at_call 19; refine (unhide RF _).mono ?_; rintro e w3 ⟨rfl, hb3⟩; exact ⟨rfl, hC.below hb3⟩)
                    | (go_at_call 20; refine (unhide RC _).mono ?_; rintro e w3 ⟨rfl, hb3⟩; exact ⟨rfl, hC.below hb3⟩)
                    | (go_at_call 21; refine (unhide RR _).mono ?_; rintro e w3 ⟨rfl, hb3⟩; exact ⟨rfl, hC.below hb3⟩)
                    | (go_at_call 22; refine (unhide HI _).mono ?_; rintro e w3 ⟨rfl, hb3⟩; exact ⟨rfl, hC.below hb3⟩)
                    | (go_at_call 23; refine (unhide RI _).mono ?_; rintro e w3 ⟨rfl, hb3⟩; exact ⟨rfl, hC.below hb3⟩)
                    | (have c0 := hC.k0; have c1 := hC.v0; have c2 := hC.f0; have c3 := hC.f1; have c4 := hC.c0; have c5 := hC.c1; have c6 := hC.r0; have c7 := hC.r1; go_simp; first | done | rfl))
                go_big_quiet_on)))
    refine wpQuiet_nil ?_
    intro w7 hC7
    have hb7 := Below.then hb4 hC7.bel
    clear hC7 hC4
    go_wp2
    go_ret
    exact ⟨rfl, hb7⟩
theorem whole_walk (k v n : Int) (w : World) (hE : NumEnv w) (hn1 : -9223372036854775808 ≤ n) (hn2 : n ≤ 9223372036854775807) :
    Calls Tryz.prog 6 #[.agg #[.int .i64 k, .int .i64 v], .int .i64 n] w fun e w' => e = .returned (.bool true) ∧ Below w.heap.size w w' := by
  by_cases hk : k = 0
  · subst hk
    have hv : rightB 0 v = true → -1000000000000000000 ≤ v ∧ v ≤ 1000000000000000000 := fun h => by
      rcases right_cases h with h | h | h | h
      · exact h.2
      · cases h.1
      · cases h.1
      · cases h.1
    refine whole_core 0 v n 0 _ 0 _ 0 _ w hE hn1 hn2 (fun w => floor_fin v w) (fun w => ceiling_fin v w) (fun w => round_fin v w) (fun hr w => ?_) (fun hr w => ?_) (fun hr w => ?_)
    · obtain ⟨h1, h2⟩ := hv hr
      rw [show wrap64 (v - v % 1000000) = v - v % 1000000 by unfold wrap64; omega]
      exact refFloor_fin v w (by omega) (by omega)
    · obtain ⟨h1, h2⟩ := hv hr
      have e1 : wrap64 (-v) = -v := by unfold wrap64; omega
      have e2 : wrap64 (-v - -v % 1000000) = -v - -v % 1000000 := by unfold wrap64; omega
      refine refCeil_of 0 v 0 (-v) 0 (-v - -v % 1000000) 0 _ w (fun w => ?_) (fun w => refFloor_fin (-v) w (by omega) (by omega)) (fun w => ?_)
      · have := refNeg_any 0 v w
        simp only [negK, negV, if_neg (show ¬ (0 : Int) = 1 by decide), if_neg (show ¬ (0 : Int) = 2 by decide), if_neg (show ¬ (0 : Int) = 3 by decide)] at this
        rw [e1] at this
        exact this
      · have := refNeg_any 0 (-v - -v % 1000000) w
        simp only [negK, negV, if_neg (show ¬ (0 : Int) = 1 by decide), if_neg (show ¬ (0 : Int) = 2 by decide), if_neg (show ¬ (0 : Int) = 3 by decide)] at this
        rw [e1, e2]
        exact this
    · obtain ⟨h1, h2⟩ := hv hr
      have e1 : wrap64 (v + 500000) = v + 500000 := by unfold wrap64; omega
      rw [e1, show wrap64 (v + 500000 - (v + 500000) % 1000000) = v + 500000 - (v + 500000) % 1000000 by unfold wrap64; omega]
      exact refRound_fin v w h1 h2
  · have hk' : (k == 0) = false := by simpa using hk
    refine whole_core k v n k v k v k v w hE hn1 hn2 (fun w => floor_not k v w hk') (fun w => ceiling_not k v w hk') (fun w => round_not k v w hk') (fun _ w => refFloor_not k v w hk') (fun hr w => ?_) (fun _ w => refRound_not k v w hk')
    rcases right_cases hr with h | h | h | h
    · exact absurd h.1 hk
    · obtain ⟨rfl, rfl⟩ := h
      exact refCeil_of 1 0 1 0 1 0 1 0 w (fun w => refNeg_any 1 0 w) (fun w => refFloor_not 1 0 w rfl) (fun w => refNeg_any 1 0 w)
    · obtain ⟨rfl, rfl⟩ := h
      exact refCeil_of 2 0 3 0 3 0 2 0 w (fun w => refNeg_any 2 0 w) (fun w => refFloor_not 3 0 w rfl) (fun w => refNeg_any 3 0 w)
    · obtain ⟨rfl, rfl⟩ := h
      exact refCeil_of 3 0 2 0 2 0 3 0 w (fun w => refNeg_any 3 0 w) (fun w => refFloor_not 2 0 w rfl) (fun w => refNeg_any 2 0 w)
end Go.Proofs.YtigbaoadnonjfaaGreatDoor
