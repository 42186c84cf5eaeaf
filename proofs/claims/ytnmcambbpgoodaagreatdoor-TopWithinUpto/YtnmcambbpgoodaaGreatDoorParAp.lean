/- TopWithin: an expression in ( ) is itself; in a sum it is a Kid. -/
import Derived.Test.YtnmcambbpgoodaaGreatDoorGbb
import Derived.Test.YtnmcambbpgoodaaGreatDoorGbu
namespace Go.Proofs.YtnmcambbpgoodaaGreatDoor
open Go.RowKit Go.Maps
theorem ferr {cs : List Nat} {f : Int} (h : saysT cs = .error f) : f = 6 ∨ f = 9 := by
  unfold saysT at h
  split at h
  · unfold saysP at h
    split at h
    · split at h
      · split at h
        · cases h
        · cases h; exact .inl rfl
      · cases h; exact .inr rfl
    · cases h; exact .inr rfl
  · cases h; exact .inr rfl
theorem fok {cs : List Nat} {x : Ex} (hl : okL cs) (hz : (T cs).size ≤ 512) (h : saysT cs = .ok x) : smallX x = true ∧ ∃ c, jRight flX (wt x) 0 0 x = some (true, c) := by
  unfold saysT at h
  cases hs : scanOf cs with
  | error p => rw [hs] at h; cases h
  | ok ts =>
    rw [hs] at h
    simp only at h
    unfold saysP at h
    split at h
    · rename_i x' s' hp
      split at h
      · split at h
        · rename_i hd
          cases h
          exact ⟨((small_all numP _).1 0 _ (tk_scan hl hz hs) x s' hp).1, okJ_true hd.2⟩
        · cases h
      · cases h
    · cases h
theorem one_right : smallX (.mk 16 [] 1000000 0 0 []) = true ∧ jRight flX 5 0 0 (.mk 16 [] 1000000 0 0 []) = some (true, 1) := ⟨by kernel_rfl, by kernel_rfl⟩
theorem parse_sum2 {cs ds : List Nat} {x y : Ex} (hl : okL cs) (kl : okL ds) (h : saysT cs = .ok x) (k : saysT ds = .ok y) : ∃ r, ParseIs (sumT (T cs) (T ds)) r ∧ (r = .ok (.mk 9 [] 0 0 0 [x, y]) ∨ r = .error 6) ∧ ∀ z, r = .ok z → smallX z = true ∧ ∃ c, jRight flX (wt z) 0 0 z = some (true, c) := by
  rw [sumT_T]
  have hlit : ∀ {l : List Nat}, okL l → ∀ {c : Nat}, charR (c : Int) = true → okL (c :: l) := fun {l} hl {c} hc d hd => by
    rcases List.mem_cons.1 hd with rfl | hd
    · exact hc
    · exact hl d hd
  have h2 : okL (40 :: (cs ++ 41 :: 32 :: 43 :: 32 :: 40 :: (ds ++ [41]))) := hlit (okL_app hl (hlit (hlit (hlit (hlit (hlit (okL_app kl (fun c hc => by rw [List.mem_singleton.1 hc]; decide)) (by decide)) (by decide)) (by decide)) (by decide)) (by decide))) (by decide)
  by_cases hz : (T (40 :: (cs ++ 41 :: 32 :: 43 :: 32 :: 40 :: (ds ++ [41])))).size ≤ 512
  · exact ⟨_, parse_T _ h2 hz, says_sum h k, fun z hk => fok h2 hz hk⟩
  · exact ⟨_, parse_long _ (by omega), .inr rfl, fun z hk => by cases hk⟩
abbrev ClsT (W w' : World) : Prop := Below W.heap.size W w'
set_option maxRecDepth 100000 in
set_option maxHeartbeats 2000000 in
theorem within_four (s t : ByteArray) (r1 r2 r3 r4 : Except Int Ex) (w : World) (hE : EnvG w) (hs : s.size ≤ 140737488355328) (ht : t.size ≤ 140737488355328) (hP0 : ParseIs ⟨#[49]⟩ (.ok (.mk 16 [] 1000000 0 0 []))) (hP1 : ParseIs s r1) (hP2 : ParseIs t r2) (hP3 : ParseIs (sumT s t) r3) (hP4 : ParseIs (inT s) r4) (h1 : r1 ≠ .error 0) (h2 : r2 ≠ .error 0)
    (hR : ∀ x, (r1 = .ok x ∨ r2 = .ok x ∨ r3 = .ok x) → smallX x = true ∧ ∃ c, jRight flX (wt x) 0 0 x = some (true, c)) (hB : ∀ x y, r1 = .ok x → r2 = .ok y → (r3 = .ok (.mk 9 [] 0 0 0 [x, y]) ∨ r3 = .error 6) ∧ (r4 = .ok x ∨ r4 = .error 6)) :
    Calls Tryz.prog 4 #[.string s, .string t] w fun e w' => e = .returned (.bool true) ∧ Below w.heap.size w w' := by
  have HE := hide hE
  have HP0 := hide hP0
  have HP1 := hide hP1
  have HP2 := hide hP2
  have HP3 := hide hP3
  have HP4 := hide hP4
  have HN := hide (And.intro h1 h2)
  have HB := hide hB
  have HJ := hide hR
  clear hR hE hP0 hP1 hP2 hP3 hP4 h1 h2 hB
  unfold sumT at HP3
  unfold inT at HP4
  go_enter Tryz.func4, Tryz.ntmps4
  go_wp2_with fail
  refine ((unhide HP1).one w (unhide HE)).mono ?_
  rintro e w1 ⟨x1, al1, c1, f1, rfl, hx1, hb1, hr1⟩
  have hb1a : Below w1.heap.size w1 (w1.alloc (oneB x1 (.slice al1 x1.kids.length c1))) := (Below.refl _ _).alloc (Nat.le_refl _) _
  have HB1 := hide (Below.then hb1 hb1a)
  have HQ1 := hide (palloc_new w1 (oneB x1 (.slice al1 x1.kids.length c1)))
  have HX1 := hide (hx1.belowC hb1a)
  have HR1 := hide hr1
  clear hx1 hb1 hb1a hr1
  go_wp2_with fail
  refine ((unhide HP2).one _ ((unhide HE).below (unhide HB1))).mono ?_
  rintro e w2 ⟨x2, al2, c2, f2, rfl, hx2, hb2, hr2⟩
  have hb2a : Below w2.heap.size w2 (w2.alloc (oneB x2 (.slice al2 x2.kids.length c2))) := (Below.refl _ _).alloc (Nat.le_refl _) _
  have HB2 := hide (Below.then (unhide HB1) (Below.then hb2 hb2a))
  have HQ2a := hide (blockC (unhide HQ1) (Below.then hb2 hb2a))
  have HX2a := hide ((unhide HX1).belowC (Below.then hb2 hb2a))
  have HQ2 := hide (palloc_new w2 (oneB x2 (.slice al2 x2.kids.length c2)))
  have HX2 := hide (hx2.belowC hb2a)
  have HR2 := hide hr2
  clear hx2 hb2 hb2a hr2 HB1 HQ1 HX1
  have z1 : (9223372036854775807 < 1 + s.size) = False := by simp; omega
  have z2 : (9223372036854775807 < 1 + s.size + 5) = False := by simp; omega
  have z3 : (9223372036854775807 < 1 + s.size + 5 + t.size) = False := by simp; omega
  have z4 : (9223372036854775807 < 1 + s.size + 5 + t.size + 1) = False := by simp; omega
  have z5 : (9223372036854775807 < 1 + s.size + 1) = False := by simp; omega
  go_wp2_with fail
  refine ((unhide HP3).one _ ((unhide HE).below (unhide HB2))).mono ?_
  rintro e w3 ⟨x3, al3, c3, f3, rfl, hx3, hb3, hr3⟩
  have hb3a : Below w3.heap.size w3 (w3.alloc (oneB x3 (.slice al3 x3.kids.length c3))) := (Below.refl _ _).alloc (Nat.le_refl _) _
  have HB3 := hide (Below.then (unhide HB2) (Below.then hb3 hb3a))
  have HQ3a := hide (blockC (unhide HQ2a) (Below.then hb3 hb3a))
  have HX3a := hide ((unhide HX2a).belowC (Below.then hb3 hb3a))
  have HQ3b := hide (blockC (unhide HQ2) (Below.then hb3 hb3a))
  have HX3b := hide ((unhide HX2).belowC (Below.then hb3 hb3a))
  have HQ3 := hide (palloc_new w3 (oneB x3 (.slice al3 x3.kids.length c3)))
  have HX3 := hide (hx3.belowC hb3a)
  have HR3 := hide hr3
  clear hx3 hb3 hb3a hr3 HB2 HQ2 HX2 HQ2a HX2a z1 z2 z3 z4
  have z1 : (9223372036854775807 < 1 + s.size) = False := by simp; omega
  go_wp2_with fail
  refine ((unhide HP4).one _ ((unhide HE).below (unhide HB3))).mono ?_
  rintro e w4 ⟨x4, al4, c4, f4, rfl, hx4, hb4, hr4⟩
  have hb4a : Below w4.heap.size w4 (w4.alloc (oneB x4 (.slice al4 x4.kids.length c4))) := (Below.refl _ _).alloc (Nat.le_refl _) _
  have HB4 := hide (Below.then (unhide HB3) (Below.then hb4 hb4a))
  have HQ4a := hide (blockC (unhide HQ3a) (Below.then hb4 hb4a))
  have HX4a := hide ((unhide HX3a).belowC (Below.then hb4 hb4a))
  have HQ4b := hide (blockC (unhide HQ3b) (Below.then hb4 hb4a))
  have HX4b := hide ((unhide HX3b).belowC (Below.then hb4 hb4a))
  have HQ4c := hide (blockC (unhide HQ3) (Below.then hb4 hb4a))
  have HX4c := hide ((unhide HX3).belowC (Below.then hb4 hb4a))
  have HQ4 := hide (palloc_new w4 (oneB x4 (.slice al4 x4.kids.length c4)))
  have HX4 := hide (hx4.belowC hb4a)
  have HR4 := hide hr4
  clear hx4 hb4 hb4a hr4 HB3 HQ3 HX3 HQ3a HX3a HQ3b HX3b z1 z5
  by_cases h12 : f1 = 0 ∧ f2 = 0
  · obtain ⟨rfl, rfl⟩ := h12
    have hn := unhide HN
    have e1 : r1 = .ok x1 := by
      rcases unhide HR1 with ⟨h, _⟩ | h
      · exact h
      · exact absurd h hn.1
    have e2 : r2 = .ok x2 := by
      rcases unhide HR2 with ⟨h, _⟩ | h
      · exact h
      · exact absurd h hn.2
    obtain ⟨q3, q4⟩ := unhide HB x1 x2 e1 e2
    have k3 : (f3 = 0 ∧ x3 = .mk 9 [] 0 0 0 [x1, x2]) ∨ f3 = 6 := by
      rcases q3 with q | q <;> rcases unhide HR3 with ⟨h, h0⟩ | h <;> rw [q] at h <;> cases h
      · exact .inl ⟨h0, rfl⟩
      · exact .inr rfl
    have k4 : (f4 = 0 ∧ x4 = x1) ∨ f4 = 6 := by
      rcases q4 with q | q <;> rcases unhide HR4 with ⟨h, h0⟩ | h <;> rw [q] at h <;> cases h
      · exact .inl ⟨h0, rfl⟩
      · exact .inr rfl
    have HJ3 := hide (fun h : f3 = 0 => (unhide HR3).elim (fun h3 => unhide HJ x3 (.inr (.inr h3.1))) (fun h3 => by
      subst h
      rcases q3 with q | q <;> rw [q] at h3 <;> cases h3))
    have j1 := unhide HJ x1 (.inl e1)
    have j2 := unhide HJ x2 (.inr (.inl e2))
    clear hn q3 q4 e1 e2 HR1 HR2 HR3 HR4 HB HN HJ
    rcases k3 with ⟨rfl, rfl⟩ | rfl
    · rcases k4 with ⟨rfl, rfl⟩ | rfl
      · obtain ⟨z1, k1, j1⟩ := j1
        obtain ⟨z2, k2, j2⟩ := j2
        obtain ⟨z3, k3, j3⟩ := unhide HJ3 rfl
        have p1 := jright_pos j1
        have p2 := jright_pos j2
        have p3 := jright_pos j3
        have hcn : k3 = k1 + k2 + 1 := by
          have m1 := (j_cn flX _).2.2.1 _ _ _ _ j1
          have m2 := (j_cn flX _).2.2.1 _ _ _ _ j2
          have m3 := (j_cn flX _).2.2.1 _ _ _ _ j3
          rw [cn_kids] at m3
          rw [show (Ex.mk 9 [] 0 0 0 [x4, x2]).kids = [x4, x2] from rfl, cnKs, cnKs, cnKs] at m3
          omega
        have HBW := hide (fun w' (hC : ClsT (w4.alloc (oneB x4 (.slice al4 x4.kids.length c4))) w') => Below.then (unhide HB4) hC)
        have hz3 := unhide HX4c
        obtain ⟨g, o, al5, c5, e5, hx5, b0, b1, b2, b3, b4, b5, b6⟩ := hz3.ks.kidC 0 x4 rfl
        obtain ⟨g', o', al6, c6, e6, hx6, d0, d1, d2, d3, d4, d5, d6⟩ := hz3.ks.kidC 1 x2 rfl
        subst e5
        cases e6
        have hSA := (fun w' (hC : ClsT (w4.alloc (oneB x4 (.slice al4 x4.kids.length c4))) w') => psame_ok w (unhide HE) (wt x4) k1 x4 al4 al1 c4 c1 w' _ _ (unhide HBW w' hC) z1 ((unhide HX4).belowC hC) ((unhide HX4a).belowC hC) j1)
        have hSB := (fun w' (hC : ClsT (w4.alloc (oneB x4 (.slice al4 x4.kids.length c4))) w') => psame_ok w (unhide HE) (wt x4) k1 x4 al5 al1 c5 c1 w' _ _ (unhide HBW w' hC) z1 (hx5.belowC hC) ((unhide HX4a).belowC hC) j1)
        have hSC := (fun w' (hC : ClsT (w4.alloc (oneB x4 (.slice al4 x4.kids.length c4))) w') => psame_ok w (unhide HE) (wt x2) k2 x2 al6 al2 c6 c2 w' _ _ (unhide HBW w' hC) z2 (hx6.belowC hC) ((unhide HX4b).belowC hC) j2)
        have hZX := fun w' (hC : ClsT (w4.alloc (oneB x4 (.slice al4 x4.kids.length c4))) w') => psize_ok w (unhide HE) (wt x4) k1 x4 al1 c1 w' _ (unhide HBW w' hC) z1 ((unhide HX4a).belowC hC) j1
        have hZY := fun w' (hC : ClsT (w4.alloc (oneB x4 (.slice al4 x4.kids.length c4))) w') => psize_ok w (unhide HE) (wt x2) k2 x2 al2 c2 w' _ (unhide HBW w' hC) z2 ((unhide HX4b).belowC hC) j2
        have hZA : exAgg (.mk 9 [] 0 0 0 [x4, x2]) (.slice (some ⟨g, o, none⟩) (Ex.mk 9 [] 0 0 0 [x4, x2]).kids.length c3) = .agg #[.int .i64 9, .string (T []), .int .i64 0, .int .i64 0, .int .i64 0, .int .i64 0, .slice (some ⟨g, o, none⟩) 2 c3] := rfl
        have hZZ := fun w' (hC : ClsT (w4.alloc (oneB x4 (.slice al4 x4.kids.length c4))) w') => psize_ok w (unhide HE) (wt (.mk 9 [] 0 0 0 [x4, x2])) k3 (.mk 9 [] 0 0 0 [x4, x2]) (some ⟨g, o, none⟩) c3 w' _ (unhide HBW w' hC) z3 (hz3.belowC hC) j3
        rw [hZA] at hZZ
        obtain ⟨P, hP⟩ : ∃ P : Int, (k1 : Int) = P := ⟨_, rfl⟩
        obtain ⟨Q, hQ⟩ : ∃ Q : Int, (k2 : Int) = Q := ⟨_, rfl⟩
        obtain ⟨R, hR⟩ : ∃ R : Int, (k3 : Int) = R := ⟨_, rfl⟩
        obtain ⟨M, hM⟩ : ∃ M : Int, P + Q = M := ⟨_, rfl⟩
        have wa1 : IntKind.i64.wrap (P + Q) = M := by rw [wrap_small] <;> omega
        have wa2 : IntKind.i64.wrap (M + 1) = R := by rw [wrap_small] <;> omega
        rw [hP] at hZX
        rw [hQ] at hZY
        rw [hR] at hZZ
        unfold exAgg at hSA hSB hSC hZX hZY
        have HSA := hide hSA
        have HSB := hide hSB
        have HSC := hide hSC
        have HZX := hide hZX
        have HZY := hide hZY
        have HZZ := hide hZZ
        clear hZA hSA hSB hSC hP hQ hR hM hcn hZX hZY hZZ p1 p2 p3 hx5 hx6 z1 z2 z3 j1 j2 j3 HJ3 hz3
        obtain ⟨s0, s1, s2, s3, s4, s5, s6⟩ := var_cells (unhide HQ4)
        obtain ⟨t0, t1, t2, t3, t4, t5, t6⟩ := var_cells (unhide HQ4a)
        obtain ⟨u0, u1, u2, u3, u4, u5, u6⟩ := var_cells (unhide HQ4b)
        obtain ⟨v0, v1, v2, v3, v4, v5, v6⟩ := var_cells (unhide HQ4c)
        simp only [Nat.zero_mul, Nat.one_mul, Nat.add_zero] at b0 b1 b2 b3 b4 b5 b6 d0 d1 d2 d3 d4 d5 d6
        have y0 : (w4.alloc (oneB x4 (.slice al4 x4.kids.length c4))).cell? ⟨w3.heap.size, 0, none⟩ = some (.int .i64 9) := v0
        have y1 : (w4.alloc (oneB x4 (.slice al4 x4.kids.length c4))).cell? ⟨w3.heap.size, 1, none⟩ = some (.string (T [])) := v1
        have y2 : (w4.alloc (oneB x4 (.slice al4 x4.kids.length c4))).cell? ⟨w3.heap.size, 2, none⟩ = some (.int .i64 0) := v2
        have y3 : (w4.alloc (oneB x4 (.slice al4 x4.kids.length c4))).cell? ⟨w3.heap.size, 3, none⟩ = some (.int .i64 0) := v3
        have y4 : (w4.alloc (oneB x4 (.slice al4 x4.kids.length c4))).cell? ⟨w3.heap.size, 4, none⟩ = some (.int .i64 0) := v4
        have y5 : (w4.alloc (oneB x4 (.slice al4 x4.kids.length c4))).cell? ⟨w3.heap.size, 5, none⟩ = some (.int .i64 0) := v5
        have y6 : (w4.alloc (oneB x4 (.slice al4 x4.kids.length c4))).cell? ⟨w3.heap.size, 6, none⟩ = some (.slice (some ⟨g, o, none⟩) 2 c3) := v6
        have HCE := hide (fun w' (hC : ClsT (w4.alloc (oneB x4 (.slice al4 x4.kids.length c4))) w') => (⟨pkept hC s0, pkept hC s1, pkept hC s2, pkept hC s3, pkept hC s4, pkept hC s5, pkept hC s6, pkept hC t0, pkept hC t1, pkept hC t2, pkept hC t3, pkept hC t4, pkept hC t5, pkept hC t6, pkept hC u0, pkept hC u1, pkept hC u2, pkept hC u3, pkept hC u4, pkept hC u5, pkept hC u6, pkept hC y0, pkept hC y1, pkept hC y2, pkept hC y3, pkept hC y4, pkept hC y5, pkept hC y6, pkept hC b0, pkept hC b1, pkept hC b2, pkept hC b3, pkept hC b4, pkept hC b5, pkept hC b6, pkept hC d0, pkept hC d1, pkept hC d2, pkept hC d3, pkept hC d4, pkept hC d5, pkept hC d6⟩ : _ ∧ _ ∧ _ ∧ _ ∧ _ ∧ _ ∧ _ ∧ _ ∧ _ ∧ _ ∧ _ ∧ _ ∧ _ ∧ _ ∧ _ ∧ _ ∧ _ ∧ _ ∧ _ ∧ _ ∧ _ ∧ _ ∧ _ ∧ _ ∧ _ ∧ _ ∧ _ ∧ _ ∧ _ ∧ _ ∧ _ ∧ _ ∧ _ ∧ _ ∧ _ ∧ _ ∧ _ ∧ _ ∧ _ ∧ _ ∧ _ ∧ _))
        have HXD : Hid (ClsT (w4.alloc (oneB x4 (.slice al4 x4.kids.length c4))) (w4.alloc (oneB x4 (.slice al4 x4.kids.length c4))).drew) := hide ((Below.refl _ _).drew)
        clear y0 y1 y2 y3 y4 y5 y6 s0 s1 s2 s3 s4 s5 s6 t0 t1 t2 t3 t4 t5 t6 u0 u1 u2 u3 u4 u5 u6 v0 v1 v2 v3 v4 v5 v6 b0 b1 b2 b3 b4 b5 b6 d0 d1 d2 d3 d4 d5 d6
        go_wp2_with fail
        refine wp_region_cls (ClsT (w4.alloc (oneB x4 (.slice al4 x4.kids.length c4)))) (by kernel_rfl) (by kernel_rfl) (unhide HXD) ?_
        repeat
          (first
            | go_big_quiet_skip
            | (go_big_quiet_want
               go_big_quiet_op
               first
                 | go_big_quiet_on
                 | (apply Exists.intro
                    refine ⟨fun w' hC => ?_, ?_⟩
                    · (first
                        | (go_at_call 8; with_reducible refine (unhide HSA _ hC).mono ?_; rintro e w8 ⟨rfl, hb8⟩; exact ⟨rfl, Below.then hC hb8⟩)
                        | (go_at_call 8; with_reducible refine (unhide HSB _ hC).mono ?_; rintro e w8 ⟨rfl, hb8⟩; exact ⟨rfl, Below.then hC hb8⟩)
                        | (go_at_call 8; with_reducible refine (unhide HSC _ hC).mono ?_; rintro e w8 ⟨rfl, hb8⟩; exact ⟨rfl, Below.then hC hb8⟩)
                        | (go_at_call 10; with_reducible refine (unhide HZZ _ hC).mono ?_; rintro e w8 ⟨rfl, hb8⟩; exact ⟨rfl, Below.then hC hb8⟩)
                        | (go_at_call 10; with_reducible refine (unhide HZX _ hC).mono ?_; rintro e w8 ⟨rfl, hb8⟩; exact ⟨rfl, Below.then hC hb8⟩)
                        | (go_at_call 10; with_reducible refine (unhide HZY _ hC).mono ?_; rintro e w8 ⟨rfl, hb8⟩; exact ⟨rfl, Below.then hC hb8⟩)
                        | (obtain ⟨s0, s1, s2, s3, s4, s5, s6, t0, t1, t2, t3, t4, t5, t6, u0, u1, u2, u3, u4, u5, u6, v0, v1, v2, v3, v4, v5, v6, b0, b1, b2, b3, b4, b5, b6, d0, d1, d2, d3, d4, d5, d6⟩ := unhide HCE _ hC; go_simp; first | done | rfl))
                    go_big_quiet_on)))
        refine wpQuiet_nil ?_
        intro w9 hb9
        have HB9 := hide (Below.then (unhide HB4) hb9)
        go_wp2_with fail
        go_returns
        exact ⟨rfl, unhide HB9⟩
      · go_wp2_with fail
        go_returns
        exact ⟨rfl, unhide HB4⟩
    · rcases k4 with ⟨rfl, rfl⟩ | rfl
      · go_wp2_with fail
        go_returns
        exact ⟨rfl, unhide HB4⟩
      · go_wp2_with fail
        go_returns
        exact ⟨rfl, unhide HB4⟩
  · have n1 : ((f1 != 0) = true) ∨ ((f1 != 0) = false ∧ (f2 != 0) = true) := by
      by_cases h1 : f1 = 0
      · exact .inr ⟨by simpa using h1, by simpa using fun h2 => h12 ⟨h1, h2⟩⟩
      · exact .inl (by simpa using h1)
    clear h12
    have HC := hide ((unhide HP0).one _ ((unhide HE).below (unhide HB4)))
    rcases n1 with n1 | ⟨n1, n2⟩
    · go_wp2_with fail
      refine (unhide HC).mono ?_
      rintro e w5 ⟨x5, al5, c5, f5, rfl, hx5, hb5, hr5⟩
      rcases hr5 with ⟨h5, rfl⟩ | h5
      · have e5 : (.mk 16 [] 1000000 0 0 [] : Ex) = x5 := Except.ok.inj h5
        have hj : smallX x5 = true ∧ jRight flX 5 0 0 x5 = some (true, 1) := by rw [← e5]; exact one_right
        have hb5a : Below w5.heap.size w5 (w5.alloc (oneB x5 (.slice al5 x5.kids.length c5))) := (Below.refl _ _).alloc (Nat.le_refl _) _
        have HB5 := hide (Below.then (unhide HB4) (Below.then hb5 hb5a))
        have HC6 := hide (pright_ok w (unhide HE) 5 1 x5 al5 c5 (w5.alloc (oneB x5 (.slice al5 x5.kids.length c5))) _ (unhide HB5) hj.1 (hx5.belowC hb5a) hj.2)
        obtain ⟨a0, a1, a2, a3, a4, a5, a6⟩ := var_cells (palloc_new w5 (oneB x5 (.slice al5 x5.kids.length c5)))
        clear hb5a hj e5 h5 hb5 hx5 HC
        go_wp2_with fail
        refine (unhide HC6).mono ?_
        rintro e w6 ⟨rfl, hb6⟩
        have HB6 := hide (Below.then (unhide HB5) hb6)
        clear hb6 HC6 a0 a1 a2 a3 a4 a5 a6
        go_wp2_with fail
        go_returns
        exact ⟨rfl, unhide HB6⟩
      · cases h5
    · go_wp2_with fail
      refine (unhide HC).mono ?_
      rintro e w5 ⟨x5, al5, c5, f5, rfl, hx5, hb5, hr5⟩
      rcases hr5 with ⟨h5, rfl⟩ | h5
      · have e5 : (.mk 16 [] 1000000 0 0 [] : Ex) = x5 := Except.ok.inj h5
        have hj : smallX x5 = true ∧ jRight flX 5 0 0 x5 = some (true, 1) := by rw [← e5]; exact one_right
        have hb5a : Below w5.heap.size w5 (w5.alloc (oneB x5 (.slice al5 x5.kids.length c5))) := (Below.refl _ _).alloc (Nat.le_refl _) _
        have HB5 := hide (Below.then (unhide HB4) (Below.then hb5 hb5a))
        have HC6 := hide (pright_ok w (unhide HE) 5 1 x5 al5 c5 (w5.alloc (oneB x5 (.slice al5 x5.kids.length c5))) _ (unhide HB5) hj.1 (hx5.belowC hb5a) hj.2)
        obtain ⟨a0, a1, a2, a3, a4, a5, a6⟩ := var_cells (palloc_new w5 (oneB x5 (.slice al5 x5.kids.length c5)))
        clear hb5a hj e5 h5 hb5 hx5 HC
        go_wp2_with fail
        refine (unhide HC6).mono ?_
        rintro e w6 ⟨rfl, hb6⟩
        have HB6 := hide (Below.then (unhide HB5) hb6)
        clear hb6 HC6 a0 a1 a2 a3 a4 a5 a6
        go_wp2_with fail
        go_returns
        exact ⟨rfl, unhide HB6⟩
      · cases h5
theorem within_walk (s t : ByteArray) (w : World) (hE : EnvG w) (hs : s.size ≤ 140737488355328) (ht : t.size ≤ 140737488355328) :
    Calls Tryz.prog 4 #[.string s, .string t] w fun e w' => e = .returned (.bool true) ∧ Below w.heap.size w w' := by
  have hP0 : ParseIs ⟨#[49]⟩ (.ok (.mk 16 [] 1000000 0 0 [])) := by
    have h := parse_T [49] (fun c hc => by rw [List.mem_singleton.1 hc]; decide) (by decide)
    rw [says_one, ← one_T] at h
    exact h
  have hno : ∀ {u : ByteArray} {r : Except Int Ex}, ((512 < u.size ∧ r = .error 6) ∨ (u.size ≤ 512 ∧ (fault u).1 ≠ 0 ∧ r = .error 4) ∨ (u.size ≤ 512 ∧ ∃ cs, okL cs ∧ u = T cs ∧ r = saysT cs)) → r ≠ .error 0 ∧ ∀ x, r = .ok x → (∃ cs, okL cs ∧ u = T cs ∧ saysT cs = .ok x) ∧ smallX x = true ∧ ∃ c, jRight flX (wt x) 0 0 x = some (true, c) := by
    intro u r h
    rcases h with ⟨_, rfl⟩ | ⟨_, _, rfl⟩ | ⟨hz, cs, hl, rfl, rfl⟩
    · exact ⟨fun h => absurd (Except.error.inj h) (by decide), fun x h => (by cases h)⟩
    · exact ⟨fun h => absurd (Except.error.inj h) (by decide), fun x h => (by cases h)⟩
    · exact ⟨fun h => (ferr h).elim (fun h => absurd h (by decide)) (fun h => absurd h (by decide)), fun x h => ⟨⟨cs, hl, rfl, h⟩, fok hl hz h⟩⟩
  obtain ⟨r1, hP1, g1⟩ := parse_any s
  obtain ⟨r2, hP2, g2⟩ := parse_any t
  obtain ⟨n1, k1⟩ := hno g1
  obtain ⟨n2, k2⟩ := hno g2
  by_cases hb : (∃ x, r1 = .ok x) ∧ ∃ y, r2 = .ok y
  · obtain ⟨⟨x, rfl⟩, y, rfl⟩ := hb
    obtain ⟨⟨cs, hl, rfl, h1⟩, q1⟩ := k1 x rfl
    obtain ⟨⟨ds, kl, rfl, h2⟩, q2⟩ := k2 y rfl
    obtain ⟨r4, hP4, h4⟩ := parse_in hl h1
    obtain ⟨r3, hP3, h3, q3⟩ := parse_sum2 hl kl h1 h2
    refine within_four (T cs) (T ds) (.ok x) (.ok y) r3 r4 w hE hs ht hP0 hP1 hP2 hP3 hP4 n1 n2 (fun z h => ?_) fun x' y' h h' => ?_
    · rcases h with h | h | h
      · cases h; exact q1
      · cases h; exact q2
      · exact q3 z h
    · cases h
      cases h'
      exact ⟨h3, h4⟩
  · obtain ⟨r3, hP3, g3⟩ := parse_any (sumT s t)
    obtain ⟨r4, hP4, _⟩ := parse_any (inT s)
    obtain ⟨n3, k3⟩ := hno g3
    refine within_four s t r1 r2 r3 r4 w hE hs ht hP0 hP1 hP2 hP3 hP4 n1 n2 (fun z h => ?_) fun x y h h' => absurd ⟨⟨x, h⟩, y, h'⟩ hb
    rcases h with h | h | h
    · exact (k1 z h).2
    · exact (k2 z h).2
    · exact (k3 z h).2
end Go.Proofs.YtnmcambbpgoodaaGreatDoor
