/- Where xparse's parser gives up: path. -/
import Derived.Test.YthkkfldmoflfaaaGreatDoorGbf
import Derived.Test.YthkkfldmoflfaaaGreatDoorParL
namespace Go.Proofs.YthkkfldmoflfaaaGreatDoor
open Go.RowKit Go.Maps
set_option maxRecDepth 100000 in
set_option maxHeartbeats 4000000 in
theorem ppath_fail (W0 : World) (n : Nat) (hn : n ≤ 90000) (hS : StepC numP W0 n) (hSF : StepF W0 n) (hM : MoreF W0 n) (hF : FiltC numP W0 n) (hFF : FiltF W0 n) : PathF W0 (n + 1) := by
  intro p s w hQ hr
  have HB := hide ((Below.refl w.heap.size w).alloc (Nat.le_refl _) expr0)
  have HPL := hide hQ.pv.lt
  have HQ := hide (hQ.alloc expr0)
  have HR0 := hide (palloc_new w expr0)
  have HS := hide hS
  have HSF := hide hSF
  have HM := hide hM
  have HF := hide hF
  have HFF := hide hFF
  obtain ⟨i0, hi, hz0, hz1, hz2⟩ := info_parts infoExpr
  rw [pathP] at hr
  clear hQ hS hSF hM hF hFF
  have HQW0 := hide (alloc_lt9 w expr0)
  generalize hwa : w.alloc expr0 = wa at *
  have HPA := hide (show p < wa.heap.size from by have h1 := unhide HPL; have h2 := unhide HQW0; omega)
  clear HQW0
  cases h1 : headIs 8 [47] s with
  | true =>
    rw [h1, if_pos rfl] at hr
    have HR := hide hr
    clear hr
    go_enter Tryz.func47, Tryz.ntmps47
    go_wp2_with fail
    clear hwa
    generalize hvl : (Value.slice none 0 0) = vl
    have HVL := hide hvl.symm
    clear hvl
    refine (poperator_at (unhide HQ).pv (t := [47]) (okL_p rfl) rfl h1).mono ?_
    rintro e w1 ⟨rfl, r1, r2⟩
    have HPVk : Hid (PV w1 p s.pop) := hide r1
    have HKk := hide r2
    clear r1 r2
    have hb3 : Below w1.heap.size w1 (w1.alloc (.cells #[.int .i64 22, .string ⟨#[]⟩, .int .i64 0, .int .i64 0, .int .i64 0, .int .i64 0, .slice none 0 0] 32)) := (Below.refl _ _).alloc (Nat.le_refl _) _
    have hn3 := palloc_new w1 (.cells #[.int .i64 22, .string ⟨#[]⟩, .int .i64 0, .int .i64 0, .int .i64 0, .int .i64 0, .slice none 0 0] 32)
    have hk3 : kidsIn (w1.alloc (.cells #[.int .i64 22, .string ⟨#[]⟩, .int .i64 0, .int .i64 0, .int .i64 0, .int .i64 0, .slice none 0 0] 32)) (fun j => wa.heap.size ≤ j ∧ j < (w1.alloc (.cells #[.int .i64 22, .string ⟨#[]⟩, .int .i64 0, .int .i64 0, .int .i64 0, .int .i64 0, .slice none 0 0] 32)).heap.size) [topX] (exCells topX (.slice none 0 0)) := kidsIn.single (cst_in _ _ 22 0 0)
    generalize hg3 : w1.heap.size = g3 at hn3
    obtain ⟨W3, e3⟩ : ∃ W3, w1.alloc (.cells #[.int .i64 22, .string ⟨#[]⟩, .int .i64 0, .int .i64 0, .int .i64 0, .int .i64 0, .slice none 0 0] 32) = W3 := ⟨_, rfl⟩
    rw [e3] at hb3 hn3 hk3
    have HN3 := hide hn3
    have HB3 := hide hb3
    have HK3 := hide hk3
    have HBW := hide (show wa.heap.size ≤ W3.heap.size from Nat.le_trans (unhide HKk).size hb3.size)
    clear hb3 hn3 hk3
    go_wp2_with (at_builtin; refine wpList_append_own_at _ rfl _ _ 30 rfl wa.heap.size 32 i0 _ 7 80 Tryz.underlying30 hi hz0 hz1 hz2 rfl (by decide) vl 0 [] rfl (by rw [unhide HVL]; exact World.ownsRow_nil _ _ _ _) ⟨g3, 0, none⟩ 1 1 (exCells topX (.slice none 0 0)) rfl rfl (lit_cells (unhide HN3) rfl) (one7) (by unfold maxLen; omega) (by omega) (unhide HBW) ?_; intro v8 w8 hown8 hgrow8 _ hat8; rw [unhide HVL] at hgrow8 hat8; obtain ⟨a8, b8, rfl⟩ := owns_slice hown8; (have HST8 := hide (RowSt.first (ls := [topX]) (unhide HPVk) (unhide HKk) (unhide HPA) (unhide HB3) (unhide HK3) hown8 hgrow8 hat8)); clear hown8 hgrow8 hat8)
    clear e3 hg3 HN3 HB3 HK3 HBW
    cases h3 : begStep s.pop with
    | false =>
      have hr1 := unhide HR
      rw [h3, if_neg (by decide)] at hr1
      cases hr1
    | true =>
      have hr1 := unhide HR
      rw [h3, if_pos rfl] at hr1
      cases h2 : stepP numP n s.pop with
      | out => rw [h2, PR.bind_out] at hr1; cases hr1
      | fail =>
        clear hr1 HR
        refine (pbegins_any p s.pop _ (unhide HST8).pv).mono ?_
        rintro e w9 ⟨rfl, e9⟩
        have e9 := e9.symm
        subst e9
        rw [h3]
        go_wp2_with fail
        have HC := hide ((unhide HSF) p s.pop w8 ((unhide HQ).goR (v0 := .slice none 0 0) (unhide HST8).kq (unhide HST8).pv (fun j e => by cases e)) h2)
        go_wp2_with fail
        refine (unhide HC).mono ?_
        rintro e w9 ⟨rfl, r2⟩
        have HK9 : Hid (Kq (fun j => j = p) w w9) := hide ((Kq.of (S := fun j => j = p) (unhide HB)).andThen (((unhide HST8).kq.more (S' := fun j => j = p) (fun j _ e => e.elim id (fun e => by cases e))).andThen r2 (fun _ _ h => h)) (fun _ _ h => h))
        clear r2 HC
        go_wp2_with fail
        exact ⟨rfl, rfl, unhide HK9⟩
      | ok x1 s1 =>
        rw [h2, PR.bind_ok] at hr1
        obtain ⟨ks2, hks2⟩ : ∃ ks2, [topX] = ks2 := ⟨_, rfl⟩
        have hl2 : ks2.length = 0 + 1 := by rw [← hks2]; rfl
        rw [hks2] at HST8
        rw [← hl2] at HST8
        rw [show Value.slice a8 1 b8 = .slice a8 ks2.length b8 from by rw [hl2]]
        have HR2 : Hid ((moreP numP n (ks2 ++ [x1]) s1).bind (fun ks s => .ok (pathX ks) s) = .fail) := hide (by rw [← hks2]; exact hr1)
        have HL2 := hide hl2
        have hl6 : ks2.length ≤ 2000000 := by omega
        clear hr1 hks2 hl2 HR
        refine (pbegins_any p s.pop _ (unhide HST8).pv).mono ?_
        rintro e w9 ⟨rfl, e9⟩
        have e9 := e9.symm
        subst e9
        rw [h3]
        go_wp2_with fail
        have HC := hide ((unhide HS) p (s.pop) w8 x1 s1 ((unhide HQ).goR (v0 := .slice none 0 0) (unhide HST8).kq (unhide HST8).pv (fun j e => by cases e)) h2)
        go_wp2_with fail
        refine (unhide HC).mono ?_
        rintro e w2 ⟨al2, c2, rfl, r2⟩
        have HST := hide ((unhide HST8).go r2.kq r2.pv (unhide HPA))
        have HX := hide r2
        have hs12 := (unhide HST8).lows
        clear r2 HC
        have hb3 : Below w2.heap.size w2 (w2.alloc (oneB x1 (.slice al2 x1.kids.length c2))) := (Below.refl _ _).alloc (Nat.le_refl _) _
        have hn3 := palloc_new w2 (oneB x1 (.slice al2 x1.kids.length c2))
        have hst3 := (unhide HST).below hb3 (unhide HPA)
        obtain ⟨ks3, xs3, hks3, hrow3, hnew3⟩ := hst3.row
        have hx3 := (((unhide HX).ex.bound.mono (S' := fun j => (wa.heap.size ≤ j ∧ (Value.slice a8 ks2.length b8).ownBlock ≠ some j) ∧ j < w2.heap.size) (fun j hj => ⟨⟨by have := (unhide HST8).kq.size; omega, fun e => by have := hs12 j e; omega⟩, hj.2⟩) (fun _ _ _ h => h)).kept (Kq.of (S := fun _ => False) hb3) (fun _ _ _ h => h)).mono (S' := fun j => (wa.heap.size ≤ j ∧ (Value.slice a8 ks2.length b8).ownBlock ≠ some j) ∧ j < (w2.alloc (oneB x1 (.slice al2 x1.kids.length c2))).heap.size) (fun j hj => ⟨hj.1, Nat.lt_of_lt_of_le hj.2 hb3.size⟩) (fun _ _ _ h => h)
        generalize hg3 : w2.heap.size = g3 at hn3
        obtain ⟨W3, e3⟩ : ∃ W3, w2.alloc (oneB x1 (.slice al2 x1.kids.length c2)) = W3 := ⟨_, rfl⟩
        rw [e3] at hb3 hn3 hst3 hrow3 hx3 hnew3
        have HN3 := hide hn3
        have HROW3 := hide hrow3
        have HST3 := hide (And.intro hst3 (And.intro hks3 (And.intro hnew3 hx3)))
        have HBW := hide (show wa.heap.size ≤ W3.heap.size from Nat.le_trans (Nat.le_refl _) (Nat.le_trans (unhide HST).kq.size hb3.size))
        have hpw3 := hst3.pv
        have HPW3 := hide (show (.slice a8 ks2.length b8 : Value).ownBlock ≠ some p from by obtain ⟨_, _, u, h2, _⟩ := hpw3; exact hrow3.ne h2 (by decide))
        clear hb3 hn3 hst3 hrow3 hks3 hnew3 hx3 hpw3
        go_wp2_with (at_builtin; refine wpList_append_own_at _ rfl _ _ 30 rfl wa.heap.size 32 i0 _ 7 80 Tryz.underlying30 hi hz0 hz1 hz2 rfl (by decide) (.slice a8 ks2.length b8) ks2.length (([] : List Value) ++ xs3) rfl (unhide HROW3).1 ⟨g3, 0, none⟩ 1 1 (exCells x1 (.slice al2 x1.kids.length c2)) rfl rfl (news7 (unhide HN3)) one7 (by unfold maxLen; omega) (by omega) (unhide HBW) ?_; intro v8 w10 hown8 hgrow8 _ hat8; obtain ⟨a9, b9, rfl⟩ := owns_slice hown8; (have HST10 := hide ((unhide HST3).1.add (unhide HST3).2.1 (unhide HROW3) (unhide HST3).2.2.1 (unhide HST3).2.2.2 (unhide HPA) (Nat.le_refl _) (unhide HST3).1.kq.size (unhide HPW3) hown8 hgrow8 hat8)); clear hown8 hgrow8 hat8)
        clear e3 hg3 HN3 HROW3 HST3 HBW HPW3 HST
        have hl2 : (ks2 ++ [x1]).length = ks2.length + 1 := by simp
        have h8 := unhide HST10
        rw [← hl2] at h8 ⊢
        obtain ⟨ks3, hks3⟩ : ∃ ks3, ks2 ++ [x1] = ks3 := ⟨_, rfl⟩
        rw [hks3] at h8 HR2 hl2 ⊢
        have HST9 := hide h8
        have H5 := hide (show 2 ≤ ks3.length ∧ ks3.length ≤ 10 from by have := unhide HL2; omega)
        clear h8 HST10 hl2 hks3 hl6 HST8
        obtain ⟨ks1, xs1, he1, hrow1, hnew1⟩ := (unhide HST9).row
        cases h4 : moreP numP n ks3 s1 with
        | out => have := unhide HR2; rw [h4, PR.bind_out] at this; cases this
        | ok ks4 s4 => have := unhide HR2; rw [h4, PR.bind_ok] at this; cases this
        | fail =>
          have HROW1 := hide hrow1
          have HC := hide ((unhide HM) p wa.heap.size a9 b9 ks3 _ s1 w10 ((unhide HQ).goR (v0 := .slice none 0 0) (unhide HST9).kq (unhide HST9).pv (fun j e => by cases e)) (unhide HPA) (unhide HST9).kq.size hrow1 (by have := unhide H5; omega) h4)
          clear he1 hrow1 hnew1
          go_wp2_with fail
          refine (unhide HC).mono ?_
          rintro e w9 ⟨rfl, r2⟩
          have HK9 : Hid (Kq (fun j => j = p) w w9) := hide ((Kq.of (S := fun j => j = p) (unhide HB)).andThen (((unhide HST9).kq.more (S' := fun j => j = p) (fun j _ e => e.elim id (fun e => by cases e))).andThen r2 (fun j hj e => e.elim id (fun e => by have := ((unhide HROW1).lt j e).1; omega))) (fun _ _ h => h))
          clear r2 HC
          go_wp2_with fail
          exact ⟨rfl, rfl, unhide HK9⟩
  | false =>
    rw [h1, if_neg (by decide)] at hr
    cases h3 : headIs 8 [47, 47] s with
    | true =>
      rw [h3, if_pos rfl] at hr
      have HR := hide hr
      clear hr
      cases h2 : stepP numP n s.pop with
      | out => have := unhide HR; rw [h2, PR.bind_out] at this; cases this
      | fail =>
        clear HR
        go_enter Tryz.func47, Tryz.ntmps47
        go_wp2_with fail
        clear hwa
        generalize hvl : (Value.slice none 0 0) = vl
        have HVL := hide hvl.symm
        clear hvl
        refine (poperator_at (unhide HQ).pv (t := [47]) (okL_p rfl) rfl h1).mono ?_
        rintro e w1 ⟨rfl, r1, r2⟩
        have HPV1 : Hid (PV w1 p s) := hide r1
        have HK1 := hide r2
        clear r1 r2
        go_wp2_with fail
        refine (poperator_at (unhide HPV1) (t := [47, 47]) (okL_p rfl) rfl h3).mono ?_
        rintro e w2 ⟨rfl, r1, r2⟩
        have HPV2 : Hid (PV w2 p s.pop) := hide r1
        have HK2 := hide ((unhide HK1).andThen r2 (fun _ _ h => h))
        clear r1 r2
        go_wp2_with fail
        refine (pbelow_any _).mono ?_
        rintro e w3 ⟨he, hb⟩
        obtain ⟨bx, hbx⟩ : ∃ bx, belowX = bx := ⟨_, rfl⟩
        have hbk : bx.kids.length = 0 := by rw [← hbx]; rfl
        have HBX : Hid (∀ (w : World) (S : Nat → Prop), exV w S bx (.slice none bx.kids.length 0)) := hide fun w S => ⟨by rw [← hbx]; exact (fun c hc => by cases hc), [], ⟨⟨_, _, rfl, by omega⟩, fun h => by omega⟩, by rw [← hbx]; exact (by rw [show (belowX).kids = [] from rfl, kidsIn])⟩
        have he2 : e = .returned (exAgg bx (.slice none bx.kids.length 0)) := by rw [he, hbk, hbx]
        clear hbk hbx he
        subst he2
        have HPVs := hide ((unhide HPV2).below hb)
        have HKs := hide ((unhide HK2).andThen (Kq.of (S := fun j => j = p) hb) (fun _ _ h => h))
        clear hb
        have HC := hide ((unhide HSF) p (s.pop) w3 ((unhide HQ).go (unhide HKs) (unhide HPVs)) h2)
        go_wp2_with fail
        refine (unhide HC).mono ?_
        rintro e w9 ⟨rfl, r2⟩
        have HK9 : Hid (Kq (fun j => j = p) w w9) := hide ((Kq.of (S := fun j => j = p) (unhide HB)).andThen ((unhide HKs).andThen r2 (fun _ _ h => h)) (fun _ _ h => h))
        clear r2 HC
        go_wp2_with fail
        exact ⟨rfl, rfl, unhide HK9⟩
      | ok x1 s1 =>
        have hr1 := unhide HR
        rw [h2, PR.bind_ok] at hr1
        have HR2 := hide hr1
        clear hr1 HR
        go_enter Tryz.func47, Tryz.ntmps47
        go_wp2_with fail
        clear hwa
        generalize hvl : (Value.slice none 0 0) = vl
        have HVL := hide hvl.symm
        clear hvl
        refine (poperator_at (unhide HQ).pv (t := [47]) (okL_p rfl) rfl h1).mono ?_
        rintro e w1 ⟨rfl, r1, r2⟩
        have HPV1 : Hid (PV w1 p s) := hide r1
        have HK1 := hide r2
        clear r1 r2
        go_wp2_with fail
        refine (poperator_at (unhide HPV1) (t := [47, 47]) (okL_p rfl) rfl h3).mono ?_
        rintro e w2 ⟨rfl, r1, r2⟩
        have HPV2 : Hid (PV w2 p s.pop) := hide r1
        have HK2 := hide ((unhide HK1).andThen r2 (fun _ _ h => h))
        clear r1 r2
        go_wp2_with fail
        refine (pbelow_any _).mono ?_
        rintro e w3 ⟨he, hb⟩
        obtain ⟨bx, hbx⟩ : ∃ bx, belowX = bx := ⟨_, rfl⟩
        have hbk : bx.kids.length = 0 := by rw [← hbx]; rfl
        have HBX : Hid (∀ (w : World) (S : Nat → Prop), exV w S bx (.slice none bx.kids.length 0)) := hide fun w S => ⟨by rw [← hbx]; exact (fun c hc => by cases hc), [], ⟨⟨_, _, rfl, by omega⟩, fun h => by omega⟩, by rw [← hbx]; exact (by rw [show (belowX).kids = [] from rfl, kidsIn])⟩
        have he2 : e = .returned (exAgg bx (.slice none bx.kids.length 0)) := by rw [he, hbk, hbx]
        rw [hbx] at HR2
        clear hbk hbx he
        subst he2
        have HPVs := hide ((unhide HPV2).below hb)
        have HKs := hide ((unhide HK2).andThen (Kq.of (S := fun j => j = p) hb) (fun _ _ h => h))
        clear hb
        have HC := hide ((unhide HS) p (s.pop) w3 x1 s1 ((unhide HQ).go (unhide HKs) (unhide HPVs)) h2)
        go_wp2_with fail
        refine (unhide HC).mono ?_
        rintro e w4 ⟨al2, c2, rfl, r2⟩
        have HX := hide r2
        have HPVk := hide r2.pv
        have HKk := hide ((unhide HKs).andThen r2.kq (fun _ _ h => h))
        clear r2 HC
        have hb3 : Below w4.heap.size w4 (w4.alloc (.cells #[.int .i64 22, .string ⟨#[]⟩, .int .i64 0, .int .i64 0, .int .i64 0, .int .i64 0, .slice none 0 0, .int .i64 (bx.op : Nat), .string (T bx.text), .int .i64 0, .int .i64 bx.num, .int .i64 (bx.axis : Nat), .int .i64 (bx.test : Nat), .slice none bx.kids.length 0, .int .i64 (x1.op : Nat), .string (T x1.text), .int .i64 0, .int .i64 x1.num, .int .i64 (x1.axis : Nat), .int .i64 (x1.test : Nat), .slice al2 x1.kids.length c2] 32)) := (Below.refl _ _).alloc (Nat.le_refl _) _
        have hn3 := palloc_new w4 (.cells #[.int .i64 22, .string ⟨#[]⟩, .int .i64 0, .int .i64 0, .int .i64 0, .int .i64 0, .slice none 0 0, .int .i64 (bx.op : Nat), .string (T bx.text), .int .i64 0, .int .i64 bx.num, .int .i64 (bx.axis : Nat), .int .i64 (bx.test : Nat), .slice none bx.kids.length 0, .int .i64 (x1.op : Nat), .string (T x1.text), .int .i64 0, .int .i64 x1.num, .int .i64 (x1.axis : Nat), .int .i64 (x1.test : Nat), .slice al2 x1.kids.length c2] 32)
        have hk3 : kidsIn (w4.alloc (.cells #[.int .i64 22, .string ⟨#[]⟩, .int .i64 0, .int .i64 0, .int .i64 0, .int .i64 0, .slice none 0 0, .int .i64 (bx.op : Nat), .string (T bx.text), .int .i64 0, .int .i64 bx.num, .int .i64 (bx.axis : Nat), .int .i64 (bx.test : Nat), .slice none bx.kids.length 0, .int .i64 (x1.op : Nat), .string (T x1.text), .int .i64 0, .int .i64 x1.num, .int .i64 (x1.axis : Nat), .int .i64 (x1.test : Nat), .slice al2 x1.kids.length c2] 32)) (fun j => wa.heap.size ≤ j ∧ j < (w4.alloc (.cells #[.int .i64 22, .string ⟨#[]⟩, .int .i64 0, .int .i64 0, .int .i64 0, .int .i64 0, .slice none 0 0, .int .i64 (bx.op : Nat), .string (T bx.text), .int .i64 0, .int .i64 bx.num, .int .i64 (bx.axis : Nat), .int .i64 (bx.test : Nat), .slice none bx.kids.length 0, .int .i64 (x1.op : Nat), .string (T x1.text), .int .i64 0, .int .i64 x1.num, .int .i64 (x1.axis : Nat), .int .i64 (x1.test : Nat), .slice al2 x1.kids.length c2] 32)).heap.size) [topX, bx, x1] ((exCells topX (.slice none 0 0)) ++ (exCells bx (.slice none bx.kids.length 0)) ++ exCells x1 (.slice al2 x1.kids.length c2)) := kidsIn.app (kidsIn.app (kidsIn.single (cst_in _ _ 22 0 0)) (kidsIn.single (unhide HBX _ _).inn)) (kidsIn.single ((((unhide HX).ex.bound.mono (S' := fun j => wa.heap.size ≤ j ∧ j < w4.heap.size) (fun j hj => ⟨by have := (unhide HKs).size; omega, hj.2⟩) (fun _ _ _ h => h)).kept (Kq.of (S := fun _ => False) hb3) (fun _ _ _ h => h)).mono (S' := fun j => wa.heap.size ≤ j ∧ j < (w4.alloc (.cells #[.int .i64 22, .string ⟨#[]⟩, .int .i64 0, .int .i64 0, .int .i64 0, .int .i64 0, .slice none 0 0, .int .i64 (bx.op : Nat), .string (T bx.text), .int .i64 0, .int .i64 bx.num, .int .i64 (bx.axis : Nat), .int .i64 (bx.test : Nat), .slice none bx.kids.length 0, .int .i64 (x1.op : Nat), .string (T x1.text), .int .i64 0, .int .i64 x1.num, .int .i64 (x1.axis : Nat), .int .i64 (x1.test : Nat), .slice al2 x1.kids.length c2] 32)).heap.size) (fun j hj => ⟨hj.1, Nat.lt_of_lt_of_le hj.2 hb3.size⟩) (fun _ _ _ h => h)).inn)
        generalize hg3 : w4.heap.size = g3 at hn3
        obtain ⟨W3, e3⟩ : ∃ W3, w4.alloc (.cells #[.int .i64 22, .string ⟨#[]⟩, .int .i64 0, .int .i64 0, .int .i64 0, .int .i64 0, .slice none 0 0, .int .i64 (bx.op : Nat), .string (T bx.text), .int .i64 0, .int .i64 bx.num, .int .i64 (bx.axis : Nat), .int .i64 (bx.test : Nat), .slice none bx.kids.length 0, .int .i64 (x1.op : Nat), .string (T x1.text), .int .i64 0, .int .i64 x1.num, .int .i64 (x1.axis : Nat), .int .i64 (x1.test : Nat), .slice al2 x1.kids.length c2] 32) = W3 := ⟨_, rfl⟩
        rw [e3] at hb3 hn3 hk3
        have HN3 := hide hn3
        have HB3 := hide hb3
        have HK3 := hide hk3
        have HBW := hide (show wa.heap.size ≤ W3.heap.size from Nat.le_trans (unhide HKk).size hb3.size)
        clear hb3 hn3 hk3
        go_wp2_with (at_builtin; refine wpList_append_own_at _ rfl _ _ 30 rfl wa.heap.size 32 i0 _ 7 80 Tryz.underlying30 hi hz0 hz1 hz2 rfl (by decide) vl 0 [] rfl (by rw [unhide HVL]; exact World.ownsRow_nil _ _ _ _) ⟨g3, 0, none⟩ 3 3 ((exCells topX (.slice none 0 0)) ++ (exCells bx (.slice none bx.kids.length 0)) ++ exCells x1 (.slice al2 x1.kids.length c2)) rfl rfl (lit_cells (unhide HN3) rfl) (one_app (one_app one7 one7) one7) (by unfold maxLen; omega) (by omega) (unhide HBW) ?_; intro v8 w8 hown8 hgrow8 _ hat8; rw [unhide HVL] at hgrow8 hat8; obtain ⟨a8, b8, rfl⟩ := owns_slice hown8; (have HST8 := hide (RowSt.first (ls := [topX, bx, x1]) (unhide HPVk) (unhide HKk) (unhide HPA) (unhide HB3) (unhide HK3) hown8 hgrow8 hat8)); clear hown8 hgrow8 hat8)
        clear e3 hg3 HN3 HB3 HK3 HBW
        obtain ⟨ks3, hks3⟩ : ∃ ks3, [topX, bx, x1] = ks3 := ⟨_, rfl⟩
        have hl2 : ks3.length = 0 + 3 := by rw [← hks3]; rfl
        rw [hks3] at HST8 HR2
        rw [← hl2] at HST8
        rw [show Value.slice a8 3 b8 = .slice a8 ks3.length b8 from by rw [hl2]]
        have HST9 := HST8
        have H5 := hide (show 2 ≤ ks3.length ∧ ks3.length ≤ 10 from by omega)
        clear HST8 hl2 hks3
        obtain ⟨ks1, xs1, he1, hrow1, hnew1⟩ := (unhide HST9).row
        cases h4 : moreP numP n ks3 s1 with
        | out => have := unhide HR2; rw [h4, PR.bind_out] at this; cases this
        | ok ks4 s4 => have := unhide HR2; rw [h4, PR.bind_ok] at this; cases this
        | fail =>
          have HROW1 := hide hrow1
          have HC := hide ((unhide HM) p wa.heap.size a8 b8 ks3 _ s1 w8 ((unhide HQ).goR (v0 := .slice none 0 0) (unhide HST9).kq (unhide HST9).pv (fun j e => by cases e)) (unhide HPA) (unhide HST9).kq.size hrow1 (by have := unhide H5; omega) h4)
          clear he1 hrow1 hnew1
          go_wp2_with fail
          refine (unhide HC).mono ?_
          rintro e w9 ⟨rfl, r2⟩
          have HK9 : Hid (Kq (fun j => j = p) w w9) := hide ((Kq.of (S := fun j => j = p) (unhide HB)).andThen (((unhide HST9).kq.more (S' := fun j => j = p) (fun j _ e => e.elim id (fun e => by cases e))).andThen r2 (fun j hj e => e.elim id (fun e => by have := ((unhide HROW1).lt j e).1; omega))) (fun _ _ h => h))
          clear r2 HC
          go_wp2_with fail
          exact ⟨rfl, rfl, unhide HK9⟩
    | false =>
      rw [h3, if_neg (by decide)] at hr
      cases h4 : begStep s with
      | true =>
        rw [h4, if_pos rfl] at hr
        have HR := hide hr
        clear hr
        cases h2 : stepP numP n s with
        | out => have := unhide HR; rw [h2, PR.bind_out] at this; cases this
        | fail =>
          clear HR
          go_enter Tryz.func47, Tryz.ntmps47
          go_wp2_with fail
          clear hwa
          generalize hvl : (Value.slice none 0 0) = vl
          have HVL := hide hvl.symm
          clear hvl
          refine (poperator_at (unhide HQ).pv (t := [47]) (okL_p rfl) rfl h1).mono ?_
          rintro e w1 ⟨rfl, r1, r2⟩
          have HPV1 : Hid (PV w1 p s) := hide r1
          have HK1 := hide r2
          clear r1 r2
          go_wp2_with fail
          refine (poperator_at (unhide HPV1) (t := [47, 47]) (okL_p rfl) rfl h3).mono ?_
          rintro e w2 ⟨rfl, r1, r2⟩
          have HPV2 : Hid (PV w2 p s) := hide r1
          have HK2 := hide ((unhide HK1).andThen r2 (fun _ _ h => h))
          clear r1 r2
          go_wp2_with fail
          refine (pbegins_any p s _ (unhide HPV2)).mono ?_
          rintro e w9 ⟨rfl, e9⟩
          have e9 := e9.symm
          subst e9
          rw [h4]
          go_wp2_with fail
          have HPVs := HPV2
          have HKs := HK2
          have HC := hide ((unhide HSF) p (s) w2 ((unhide HQ).go (unhide HKs) (unhide HPVs)) h2)
          go_wp2_with fail
          refine (unhide HC).mono ?_
          rintro e w9 ⟨rfl, r2⟩
          have HK9 : Hid (Kq (fun j => j = p) w w9) := hide ((Kq.of (S := fun j => j = p) (unhide HB)).andThen ((unhide HKs).andThen r2 (fun _ _ h => h)) (fun _ _ h => h))
          clear r2 HC
          go_wp2_with fail
          exact ⟨rfl, rfl, unhide HK9⟩
        | ok x1 s1 =>
          have hr1 := unhide HR
          rw [h2, PR.bind_ok] at hr1
          have HR2 := hide hr1
          clear hr1 HR
          go_enter Tryz.func47, Tryz.ntmps47
          go_wp2_with fail
          clear hwa
          generalize hvl : (Value.slice none 0 0) = vl
          have HVL := hide hvl.symm
          clear hvl
          refine (poperator_at (unhide HQ).pv (t := [47]) (okL_p rfl) rfl h1).mono ?_
          rintro e w1 ⟨rfl, r1, r2⟩
          have HPV1 : Hid (PV w1 p s) := hide r1
          have HK1 := hide r2
          clear r1 r2
          go_wp2_with fail
          refine (poperator_at (unhide HPV1) (t := [47, 47]) (okL_p rfl) rfl h3).mono ?_
          rintro e w2 ⟨rfl, r1, r2⟩
          have HPV2 : Hid (PV w2 p s) := hide r1
          have HK2 := hide ((unhide HK1).andThen r2 (fun _ _ h => h))
          clear r1 r2
          go_wp2_with fail
          refine (pbegins_any p s _ (unhide HPV2)).mono ?_
          rintro e w9 ⟨rfl, e9⟩
          have e9 := e9.symm
          subst e9
          rw [h4]
          go_wp2_with fail
          have HPVs := HPV2
          have HKs := HK2
          have HC := hide ((unhide HS) p (s) w2 x1 s1 ((unhide HQ).go (unhide HKs) (unhide HPVs)) h2)
          go_wp2_with fail
          refine (unhide HC).mono ?_
          rintro e w4 ⟨al2, c2, rfl, r2⟩
          have HX := hide r2
          have HPVk := hide r2.pv
          have HKk := hide ((unhide HKs).andThen r2.kq (fun _ _ h => h))
          clear r2 HC
          have hb3 : Below w4.heap.size w4 (w4.alloc (.cells #[.int .i64 0, .string ⟨#[]⟩, .int .i64 0, .int .i64 0, .int .i64 0, .int .i64 0, .slice none 0 0, .int .i64 (x1.op : Nat), .string (T x1.text), .int .i64 0, .int .i64 x1.num, .int .i64 (x1.axis : Nat), .int .i64 (x1.test : Nat), .slice al2 x1.kids.length c2] 32)) := (Below.refl _ _).alloc (Nat.le_refl _) _
          have hn3 := palloc_new w4 (.cells #[.int .i64 0, .string ⟨#[]⟩, .int .i64 0, .int .i64 0, .int .i64 0, .int .i64 0, .slice none 0 0, .int .i64 (x1.op : Nat), .string (T x1.text), .int .i64 0, .int .i64 x1.num, .int .i64 (x1.axis : Nat), .int .i64 (x1.test : Nat), .slice al2 x1.kids.length c2] 32)
          have hk3 : kidsIn (w4.alloc (.cells #[.int .i64 0, .string ⟨#[]⟩, .int .i64 0, .int .i64 0, .int .i64 0, .int .i64 0, .slice none 0 0, .int .i64 (x1.op : Nat), .string (T x1.text), .int .i64 0, .int .i64 x1.num, .int .i64 (x1.axis : Nat), .int .i64 (x1.test : Nat), .slice al2 x1.kids.length c2] 32)) (fun j => wa.heap.size ≤ j ∧ j < (w4.alloc (.cells #[.int .i64 0, .string ⟨#[]⟩, .int .i64 0, .int .i64 0, .int .i64 0, .int .i64 0, .slice none 0 0, .int .i64 (x1.op : Nat), .string (T x1.text), .int .i64 0, .int .i64 x1.num, .int .i64 (x1.axis : Nat), .int .i64 (x1.test : Nat), .slice al2 x1.kids.length c2] 32)).heap.size) [noX, x1] ((exCells noX (.slice none 0 0)) ++ exCells x1 (.slice al2 x1.kids.length c2)) := kidsIn.app (kidsIn.single (cst_in _ _ 0 0 0)) (kidsIn.single ((((unhide HX).ex.bound.mono (S' := fun j => wa.heap.size ≤ j ∧ j < w4.heap.size) (fun j hj => ⟨by have := (unhide HKs).size; omega, hj.2⟩) (fun _ _ _ h => h)).kept (Kq.of (S := fun _ => False) hb3) (fun _ _ _ h => h)).mono (S' := fun j => wa.heap.size ≤ j ∧ j < (w4.alloc (.cells #[.int .i64 0, .string ⟨#[]⟩, .int .i64 0, .int .i64 0, .int .i64 0, .int .i64 0, .slice none 0 0, .int .i64 (x1.op : Nat), .string (T x1.text), .int .i64 0, .int .i64 x1.num, .int .i64 (x1.axis : Nat), .int .i64 (x1.test : Nat), .slice al2 x1.kids.length c2] 32)).heap.size) (fun j hj => ⟨hj.1, Nat.lt_of_lt_of_le hj.2 hb3.size⟩) (fun _ _ _ h => h)).inn)
          generalize hg3 : w4.heap.size = g3 at hn3
          obtain ⟨W3, e3⟩ : ∃ W3, w4.alloc (.cells #[.int .i64 0, .string ⟨#[]⟩, .int .i64 0, .int .i64 0, .int .i64 0, .int .i64 0, .slice none 0 0, .int .i64 (x1.op : Nat), .string (T x1.text), .int .i64 0, .int .i64 x1.num, .int .i64 (x1.axis : Nat), .int .i64 (x1.test : Nat), .slice al2 x1.kids.length c2] 32) = W3 := ⟨_, rfl⟩
          rw [e3] at hb3 hn3 hk3
          have HN3 := hide hn3
          have HB3 := hide hb3
          have HK3 := hide hk3
          have HBW := hide (show wa.heap.size ≤ W3.heap.size from Nat.le_trans (unhide HKk).size hb3.size)
          clear hb3 hn3 hk3
          go_wp2_with (at_builtin; refine wpList_append_own_at _ rfl _ _ 30 rfl wa.heap.size 32 i0 _ 7 80 Tryz.underlying30 hi hz0 hz1 hz2 rfl (by decide) vl 0 [] rfl (by rw [unhide HVL]; exact World.ownsRow_nil _ _ _ _) ⟨g3, 0, none⟩ 2 2 ((exCells noX (.slice none 0 0)) ++ exCells x1 (.slice al2 x1.kids.length c2)) rfl rfl (lit_cells (unhide HN3) rfl) (one_app one7 one7) (by unfold maxLen; omega) (by omega) (unhide HBW) ?_; intro v8 w8 hown8 hgrow8 _ hat8; rw [unhide HVL] at hgrow8 hat8; obtain ⟨a8, b8, rfl⟩ := owns_slice hown8; (have HST8 := hide (RowSt.first (ls := [noX, x1]) (unhide HPVk) (unhide HKk) (unhide HPA) (unhide HB3) (unhide HK3) hown8 hgrow8 hat8)); clear hown8 hgrow8 hat8)
          clear e3 hg3 HN3 HB3 HK3 HBW
          obtain ⟨ks3, hks3⟩ : ∃ ks3, [noX, x1] = ks3 := ⟨_, rfl⟩
          have hl2 : ks3.length = 0 + 2 := by rw [← hks3]; rfl
          rw [hks3] at HST8 HR2
          rw [← hl2] at HST8
          rw [show Value.slice a8 2 b8 = .slice a8 ks3.length b8 from by rw [hl2]]
          have HST9 := HST8
          have H5 := hide (show 2 ≤ ks3.length ∧ ks3.length ≤ 10 from by omega)
          clear HST8 hl2 hks3
          obtain ⟨ks1, xs1, he1, hrow1, hnew1⟩ := (unhide HST9).row
          cases h4 : moreP numP n ks3 s1 with
          | out => have := unhide HR2; rw [h4, PR.bind_out] at this; cases this
          | ok ks4 s4 => have := unhide HR2; rw [h4, PR.bind_ok] at this; cases this
          | fail =>
            have HROW1 := hide hrow1
            have HC := hide ((unhide HM) p wa.heap.size a8 b8 ks3 _ s1 w8 ((unhide HQ).goR (v0 := .slice none 0 0) (unhide HST9).kq (unhide HST9).pv (fun j e => by cases e)) (unhide HPA) (unhide HST9).kq.size hrow1 (by have := unhide H5; omega) h4)
            clear he1 hrow1 hnew1
            go_wp2_with fail
            refine (unhide HC).mono ?_
            rintro e w9 ⟨rfl, r2⟩
            have HK9 : Hid (Kq (fun j => j = p) w w9) := hide ((Kq.of (S := fun j => j = p) (unhide HB)).andThen (((unhide HST9).kq.more (S' := fun j => j = p) (fun j _ e => e.elim id (fun e => by cases e))).andThen r2 (fun j hj e => e.elim id (fun e => by have := ((unhide HROW1).lt j e).1; omega))) (fun _ _ h => h))
            clear r2 HC
            go_wp2_with fail
            exact ⟨rfl, rfl, unhide HK9⟩
      | false =>
        rw [h4, if_neg (by decide)] at hr
        have HR := hide hr
        clear hr
        cases h2 : filtP numP n s with
        | out => have := unhide HR; rw [h2, PR.bind_out] at this; cases this
        | fail =>
          clear HR
          go_enter Tryz.func47, Tryz.ntmps47
          go_wp2_with fail
          clear hwa
          generalize hvl : (Value.slice none 0 0) = vl
          have HVL := hide hvl.symm
          clear hvl
          refine (poperator_at (unhide HQ).pv (t := [47]) (okL_p rfl) rfl h1).mono ?_
          rintro e w1 ⟨rfl, r1, r2⟩
          have HPV1 : Hid (PV w1 p s) := hide r1
          have HK1 := hide r2
          clear r1 r2
          go_wp2_with fail
          refine (poperator_at (unhide HPV1) (t := [47, 47]) (okL_p rfl) rfl h3).mono ?_
          rintro e w2 ⟨rfl, r1, r2⟩
          have HPV2 : Hid (PV w2 p s) := hide r1
          have HK2 := hide ((unhide HK1).andThen r2 (fun _ _ h => h))
          clear r1 r2
          go_wp2_with fail
          refine (pbegins_any p s _ (unhide HPV2)).mono ?_
          rintro e w9 ⟨rfl, e9⟩
          have e9 := e9.symm
          subst e9
          rw [h4]
          go_wp2_with fail
          have HPVs := HPV2
          have HKs := HK2
          have HC := hide ((unhide HFF) p (s) w2 ((unhide HQ).go (unhide HKs) (unhide HPVs)) h2)
          go_wp2_with fail
          refine (unhide HC).mono ?_
          rintro e w9 ⟨rfl, r2⟩
          have HK9 : Hid (Kq (fun j => j = p) w w9) := hide ((Kq.of (S := fun j => j = p) (unhide HB)).andThen ((unhide HKs).andThen r2 (fun _ _ h => h)) (fun _ _ h => h))
          clear r2 HC
          go_wp2_with fail
          exact ⟨rfl, rfl, unhide HK9⟩
        | ok x1 s1 =>
          have hr1 := unhide HR
          rw [h2, PR.bind_ok] at hr1
          have HR2 := hide hr1
          clear hr1 HR
          go_enter Tryz.func47, Tryz.ntmps47
          go_wp2_with fail
          clear hwa
          generalize hvl : (Value.slice none 0 0) = vl
          have HVL := hide hvl.symm
          clear hvl
          refine (poperator_at (unhide HQ).pv (t := [47]) (okL_p rfl) rfl h1).mono ?_
          rintro e w1 ⟨rfl, r1, r2⟩
          have HPV1 : Hid (PV w1 p s) := hide r1
          have HK1 := hide r2
          clear r1 r2
          go_wp2_with fail
          refine (poperator_at (unhide HPV1) (t := [47, 47]) (okL_p rfl) rfl h3).mono ?_
          rintro e w2 ⟨rfl, r1, r2⟩
          have HPV2 : Hid (PV w2 p s) := hide r1
          have HK2 := hide ((unhide HK1).andThen r2 (fun _ _ h => h))
          clear r1 r2
          go_wp2_with fail
          refine (pbegins_any p s _ (unhide HPV2)).mono ?_
          rintro e w9 ⟨rfl, e9⟩
          have e9 := e9.symm
          subst e9
          rw [h4]
          go_wp2_with fail
          have HPVs := HPV2
          have HKs := HK2
          have HC := hide ((unhide HF) p (s) w2 x1 s1 ((unhide HQ).go (unhide HKs) (unhide HPVs)) h2)
          go_wp2_with fail
          refine (unhide HC).mono ?_
          rintro e w4 ⟨al2, c2, rfl, r2⟩
          have HX := hide r2
          have HPVk := hide r2.pv
          have HKk := hide ((unhide HKs).andThen r2.kq (fun _ _ h => h))
          clear r2 HC
          have hb3 : Below w4.heap.size w4 (w4.alloc (.cells #[.int .i64 (x1.op : Nat), .string (T x1.text), .int .i64 0, .int .i64 x1.num, .int .i64 (x1.axis : Nat), .int .i64 (x1.test : Nat), .slice al2 x1.kids.length c2] 32)) := (Below.refl _ _).alloc (Nat.le_refl _) _
          have hn3 := palloc_new w4 (.cells #[.int .i64 (x1.op : Nat), .string (T x1.text), .int .i64 0, .int .i64 x1.num, .int .i64 (x1.axis : Nat), .int .i64 (x1.test : Nat), .slice al2 x1.kids.length c2] 32)
          have hk3 : kidsIn (w4.alloc (.cells #[.int .i64 (x1.op : Nat), .string (T x1.text), .int .i64 0, .int .i64 x1.num, .int .i64 (x1.axis : Nat), .int .i64 (x1.test : Nat), .slice al2 x1.kids.length c2] 32)) (fun j => wa.heap.size ≤ j ∧ j < (w4.alloc (.cells #[.int .i64 (x1.op : Nat), .string (T x1.text), .int .i64 0, .int .i64 x1.num, .int .i64 (x1.axis : Nat), .int .i64 (x1.test : Nat), .slice al2 x1.kids.length c2] 32)).heap.size) [x1] (exCells x1 (.slice al2 x1.kids.length c2)) := kidsIn.single ((((unhide HX).ex.bound.mono (S' := fun j => wa.heap.size ≤ j ∧ j < w4.heap.size) (fun j hj => ⟨by have := (unhide HKs).size; omega, hj.2⟩) (fun _ _ _ h => h)).kept (Kq.of (S := fun _ => False) hb3) (fun _ _ _ h => h)).mono (S' := fun j => wa.heap.size ≤ j ∧ j < (w4.alloc (.cells #[.int .i64 (x1.op : Nat), .string (T x1.text), .int .i64 0, .int .i64 x1.num, .int .i64 (x1.axis : Nat), .int .i64 (x1.test : Nat), .slice al2 x1.kids.length c2] 32)).heap.size) (fun j hj => ⟨hj.1, Nat.lt_of_lt_of_le hj.2 hb3.size⟩) (fun _ _ _ h => h)).inn
          generalize hg3 : w4.heap.size = g3 at hn3
          obtain ⟨W3, e3⟩ : ∃ W3, w4.alloc (.cells #[.int .i64 (x1.op : Nat), .string (T x1.text), .int .i64 0, .int .i64 x1.num, .int .i64 (x1.axis : Nat), .int .i64 (x1.test : Nat), .slice al2 x1.kids.length c2] 32) = W3 := ⟨_, rfl⟩
          rw [e3] at hb3 hn3 hk3
          have HN3 := hide hn3
          have HB3 := hide hb3
          have HK3 := hide hk3
          have HBW := hide (show wa.heap.size ≤ W3.heap.size from Nat.le_trans (unhide HKk).size hb3.size)
          clear hb3 hn3 hk3
          go_wp2_with (at_builtin; refine wpList_append_own_at _ rfl _ _ 30 rfl wa.heap.size 32 i0 _ 7 80 Tryz.underlying30 hi hz0 hz1 hz2 rfl (by decide) vl 0 [] rfl (by rw [unhide HVL]; exact World.ownsRow_nil _ _ _ _) ⟨g3, 0, none⟩ 1 1 (exCells x1 (.slice al2 x1.kids.length c2)) rfl rfl (lit_cells (unhide HN3) rfl) (one7) (by unfold maxLen; omega) (by omega) (unhide HBW) ?_; intro v8 w8 hown8 hgrow8 _ hat8; rw [unhide HVL] at hgrow8 hat8; obtain ⟨a8, b8, rfl⟩ := owns_slice hown8; (have HST8 := hide (RowSt.first (ls := [x1]) (unhide HPVk) (unhide HKk) (unhide HPA) (unhide HB3) (unhide HK3) hown8 hgrow8 hat8)); (have HROW8 := hide ((KRow.nil W3 wa.heap.size).add (kidsIn.mono (fun j hj => ⟨⟨hj.1, fun e => by cases e⟩, hj.2⟩) (fun _ _ _ h => h) _ _ (unhide HK3)) hown8 hgrow8 hat8)); (have HKQ8 := hide ((Kq.of (S := fun j => j = p) (unhide HB3)).andThen ((Kq.refl (fun j => j = p) W3).grown hgrow8 (fun j e _ => by cases e)) (fun _ _ h => h))); (have HOW := hide (fun j (e : (Value.slice a8 (0 + 1) b8).ownBlock = some j) => show w4.heap.size ≤ j from hat8.elim (fun h => by rw [h] at e; cases e) (fun h => by rw [h] at e; have h1 := Option.some.inj e; have h2 := (unhide HB3).size; omega))); clear hown8 hgrow8 hat8)
          clear e3 hg3 HN3 HB3 HK3 HBW
          cases h5 : moreP numP n [x1] s1 with
          | out => have := unhide HR2; rw [h5, PR.bind_out] at this; cases this
          | ok ks4 s4 => have := unhide HR2; rw [h5, PR.bind_ok] at this; cases this
          | fail =>
            have HC := hide ((unhide HM) p wa.heap.size a8 b8 [x1] _ s1 w8 ((unhide HQ).goR (v0 := .slice none 0 0) (unhide HST8).kq (unhide HST8).pv (fun j e => by cases e)) (unhide HPA) (unhide HST8).kq.size (unhide HROW8) (by simp; omega) h5)
            go_wp2_with fail
            refine (unhide HC).mono ?_
            rintro e w9 ⟨rfl, r2⟩
            have HK9 : Hid (Kq (fun j => j = p) w w9) := hide ((Kq.of (S := fun j => j = p) (unhide HB)).andThen ((unhide HKs).andThen ((unhide HX).kq.andThen ((unhide HKQ8).andThen r2 (fun j hj e => e.elim id (fun e => by have h1 := unhide HOW j e; omega))) (fun _ _ h => h)) (fun _ _ h => h)) (fun _ _ h => h))
            clear r2 HC
            go_wp2_with fail
            exact ⟨rfl, rfl, unhide HK9⟩
end Go.Proofs.YthkkfldmoflfaaaGreatDoor
