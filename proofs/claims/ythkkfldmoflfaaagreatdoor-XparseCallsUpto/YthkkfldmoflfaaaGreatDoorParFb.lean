/- Where xparse's parser gives up: moreSteps, predicates, arguments. -/
import Derived.Test.YthkkfldmoflfaaaGreatDoorGbd
namespace Go.Proofs.YthkkfldmoflfaaaGreatDoor
open Go.RowKit Go.Maps
set_option maxRecDepth 100000 in
set_option maxHeartbeats 2000000 in
theorem pmore_fail (W0 : World) (n : Nat) (hS : ∀ m, m ≤ n → StepC numP W0 m) (hSF : ∀ m, m ≤ n → StepF W0 m) : MoreF W0 (n + 1) := by
  intro p B al0 c0 ks0 xs0 s0 w hQ hpB hBs hrow hlen hr
  have HR := hide hr
  have HS := hide hS
  have HSF := hide hSF
  have HST0 : Hid (RowSt w w p B (.slice al0 ks0.length c0) ks0 xs0 (.slice al0 ks0.length c0) ks0 s0) := hide (RowSt.start hrow hQ.pv (Kq.refl _ _) hQ.pv.lt)
  obtain ⟨i0, hi, hz0, hz1, hz2⟩ := info_parts infoExpr
  have HPB := hide hpB
  have HBS := hide hBs
  have HQ := hide hQ
  have HL := hide hlen
  have HV0 := hide (fun j (e : (Value.slice al0 ks0.length c0).ownBlock = some j) => show W0.heap.size ≤ j from by have := (hrow.lt j e).1; have := hQ.lo; omega)
  clear hr hS hSF hQ hpB hBs hrow hlen
  go_enter Tryz.func83, Tryz.ntmps83
  go_wp2_with fail
  go_loopg [1] (n + 1) (fun gk kv wr => gk ≤ n + 1 ∧ ∃ (ks : List Ex) (al : Option Addr) (c : Nat) (s : PS), kv = .slice al ks.length c ∧ ks.length + 2 * gk ≤ 2000000 ∧ Hid (moreP numP gk ks s = .fail) ∧ Hid (RowSt w wr p B (.slice al0 ks0.length c0) ks0 xs0 (.slice al ks.length c) ks s))
  case atStart => exact ⟨Nat.le_refl _, ks0, al0, c0, s0, rfl, unhide HL, HR, HST0⟩
  case round =>
    obtain ⟨hgn, ks, al, c, s, rfl, hl, HR1, HST⟩ := hrel
    have HGN := hide hgn
    clear hgn HST0 HR HL
    cases gk with
    | zero =>
      have := unhide HR1
      rw [moreP] at this
      cases this
    | succ m =>
      have hr1 := unhide HR1
      rw [moreP] at hr1
      clear HR1
      cases h1 : headIs 8 [47] s with
      | true =>
        rw [h1, if_pos rfl] at hr1
        cases h2 : stepP numP m s.pop with
        | out => rw [h2, PR.bind_out] at hr1; cases hr1
        | fail =>
          have HL2 := hide hl
          clear hr1
          go_wp2_with fail
          refine (poperator_at (unhide HST).pv (t := [47]) (okL_p rfl) rfl h1).mono ?_
          rintro e w1 ⟨rfl, r1, r2⟩
          have HST1 := hide ((unhide HST).go r2 r1 (unhide HPB))
          clear r1 r2 HST
          have HC := hide ((unhide HSF) m (by have := unhide HGN; omega) p s.pop w1 ((unhide HQ).goR (unhide HST1).kq (unhide HST1).pv (unhide HV0)) h2)
          go_wp2_with fail
          refine (unhide HC).mono ?_
          rintro e w99 ⟨rfl, r2⟩
          have HK9 := hide ((unhide HST1).kq.andThen r2 (fun _ _ h => .inl h))
          clear r2 HC
          go_wp2_with fail
          exact ⟨rfl, rfl, unhide HK9⟩
        | ok x s1 =>
          rw [h2, PR.bind_ok] at hr1
          have HR2 := hide hr1
          have HL2 := hide hl
          clear hr1
          go_wp2_with fail
          refine (poperator_at (unhide HST).pv (t := [47]) (okL_p rfl) rfl h1).mono ?_
          rintro e w1 ⟨rfl, r1, r2⟩
          have HST1 := hide ((unhide HST).go r2 r1 (unhide HPB))
          clear r1 r2 HST
          have HC := hide ((unhide HS) m (by have := unhide HGN; omega) p s.pop w1 x s1 ((unhide HQ).goR (unhide HST1).kq (unhide HST1).pv (unhide HV0)) h2)
          go_wp2_with fail
          refine (unhide HC).mono ?_
          rintro e w2 ⟨al2, c2, rfl, r2⟩
          have HST := hide ((unhide HST1).go r2.kq r2.pv (unhide HPB))
          have HX := hide r2
          have hs12 := (unhide HST1).lows
          clear r2 HC

          have hb3 : Below w2.heap.size w2 (w2.alloc (oneB x (.slice al2 x.kids.length c2))) := (Below.refl _ _).alloc (Nat.le_refl _) _
          have hn3 := palloc_new w2 (oneB x (.slice al2 x.kids.length c2))
          have hst3 := (unhide HST).below hb3 (unhide HPB)
          obtain ⟨ks3, xs3, hks3, hrow3, hnew3⟩ := hst3.row
          have hx3 := (((unhide HX).ex.bound.mono (S' := fun j => (w.heap.size ≤ j ∧ (Value.slice al ks.length c).ownBlock ≠ some j) ∧ j < w2.heap.size) (fun j hj => ⟨⟨by have := (unhide HST1).kq.size; omega, fun e => by have := hs12 j e; omega⟩, hj.2⟩) (fun _ _ _ h => h)).kept (Kq.of (S := fun _ => False) hb3) (fun _ _ _ h => h)).mono (S' := fun j => (w.heap.size ≤ j ∧ (Value.slice al ks.length c).ownBlock ≠ some j) ∧ j < (w2.alloc (oneB x (.slice al2 x.kids.length c2))).heap.size) (fun j hj => ⟨hj.1, Nat.lt_of_lt_of_le hj.2 hb3.size⟩) (fun _ _ _ h => h)
          generalize hg3 : w2.heap.size = g3 at hn3
          obtain ⟨W3, e3⟩ : ∃ W3, w2.alloc (oneB x (.slice al2 x.kids.length c2)) = W3 := ⟨_, rfl⟩
          rw [e3] at hb3 hn3 hst3 hrow3 hx3 hnew3
          have HN3 := hide hn3
          have HROW3 := hide hrow3
          have HST3 := hide (And.intro hst3 (And.intro hks3 (And.intro hnew3 hx3)))
          have HBW := hide (show B ≤ W3.heap.size from Nat.le_trans (unhide HBS) (Nat.le_trans (unhide HST).kq.size hb3.size))
          have hpw3 := hst3.pv
          have HPW3 := hide (show (.slice al ks.length c : Value).ownBlock ≠ some p from by obtain ⟨_, _, u, h2, _⟩ := hpw3; exact hrow3.ne h2 (by decide))
          clear hb3 hn3 hst3 hrow3 hks3 hnew3 hx3 hpw3
          go_wp2_with (at_builtin; refine wpList_append_own_at _ rfl _ _ 30 rfl B 32 i0 _ 7 80 Tryz.underlying30 hi hz0 hz1 hz2 rfl (by decide) (.slice al ks.length c) ks.length (xs0 ++ xs3) rfl (unhide HROW3).1 ⟨g3, 0, none⟩ 1 1 (exCells x (.slice al2 x.kids.length c2)) rfl rfl (news7 (unhide HN3)) one7 (by unfold maxLen; omega) (by omega) (unhide HBW) ?_; intro v8 w8 hown8 hgrow8 _ hat8; obtain ⟨a8, b8, rfl⟩ := owns_slice hown8; (have HST8 := hide ((unhide HST3).1.add (unhide HST3).2.1 (unhide HROW3) (unhide HST3).2.2.1 (unhide HST3).2.2.2 (unhide HPB) (unhide HBS) (unhide HST3).1.kq.size (unhide HPW3) hown8 hgrow8 hat8)); clear hown8 hgrow8 hat8)
          clear e3 hg3 HN3 HROW3 HST3 HBW HPW3 HST
          go_roundg m
          case measure => omega
          case rel =>
            have hl2 : (ks ++ [x]).length = ks.length + 1 := by simp
            have h8 := unhide HST8
            rw [← hl2] at h8
            exact ⟨by have := unhide HGN; omega, ks ++ [x], a8, b8, s1, by rw [hl2], by have := unhide HL2; omega, HR2, hide h8⟩
      | false =>
        rw [h1, if_neg (by decide)] at hr1
        cases h3 : headIs 8 [47, 47] s with
        | true =>
          rw [h3, if_pos rfl] at hr1
          cases h2 : stepP numP m s.pop with
          | out => rw [h2, PR.bind_out] at hr1; cases hr1
          | fail =>
            have HL2 := hide hl
            clear hr1
            go_wp2_with fail
            refine (poperator_at (unhide HST).pv (t := [47]) (okL_p rfl) rfl h1).mono ?_
            rintro e w1 ⟨rfl, r1, r2⟩
            have HST1 := hide ((unhide HST).go r2 r1 (unhide HPB))
            clear r1 r2 HST
            go_wp2_with fail
            refine (poperator_at (unhide HST1).pv (t := [47, 47]) (okL_p rfl) rfl h3).mono ?_
            rintro e w2 ⟨rfl, r1, r2⟩
            have HST2 := hide ((unhide HST1).go r2 r1 (unhide HPB))
            clear r1 r2 HST1
            go_wp2_with fail
            refine (pbelow_any _).mono ?_
            rintro e w3 ⟨he, hb⟩
            have HST := hide ((unhide HST2).below hb (unhide HPB))
            clear hb HST2
            obtain ⟨bx, hbx⟩ : ∃ bx, belowX = bx := ⟨_, rfl⟩
            have hbk : bx.kids.length = 0 := by rw [← hbx]; rfl
            have HBX : Hid (∀ (w : World) (S : Nat → Prop), exV w S bx (.slice none bx.kids.length 0)) := hide fun w S => ⟨by rw [← hbx]; exact (fun c hc => by cases hc), [], ⟨⟨_, _, rfl, by omega⟩, fun h => by omega⟩, by rw [← hbx]; exact (by rw [show (belowX).kids = [] from rfl, kidsIn])⟩
            have he2 : e = .returned (exAgg bx (.slice none bx.kids.length 0)) := by rw [he, hbk, hbx]
            skip
            clear hbk hbx he
            subst he2
            have hb3 : Below w3.heap.size w3 (w3.alloc (oneB bx (.slice none bx.kids.length 0))) := (Below.refl _ _).alloc (Nat.le_refl _) _
            have hn3 := palloc_new w3 (oneB bx (.slice none bx.kids.length 0))
            have hst3 := (unhide HST).below hb3 (unhide HPB)
            obtain ⟨ks3, xs3, hks3, hrow3, hnew3⟩ := hst3.row
            have hx3 := unhide HBX (w3.alloc (oneB bx (.slice none bx.kids.length 0))) (fun j => (w.heap.size ≤ j ∧ (Value.slice al ks.length c).ownBlock ≠ some j) ∧ j < (w3.alloc (oneB bx (.slice none bx.kids.length 0))).heap.size)
            generalize hg3 : w3.heap.size = g3 at hn3
            obtain ⟨W3, e3⟩ : ∃ W3, w3.alloc (oneB bx (.slice none bx.kids.length 0)) = W3 := ⟨_, rfl⟩
            rw [e3] at hb3 hn3 hst3 hrow3 hx3 hnew3
            have HN3 := hide hn3
            have HROW3 := hide hrow3
            have HST3 := hide (And.intro hst3 (And.intro hks3 (And.intro hnew3 hx3)))
            have HBW := hide (show B ≤ W3.heap.size from Nat.le_trans (unhide HBS) (Nat.le_trans (unhide HST).kq.size hb3.size))
            have hpw3 := hst3.pv
            have HPW3 := hide (show (.slice al ks.length c : Value).ownBlock ≠ some p from by obtain ⟨_, _, u, h2, _⟩ := hpw3; exact hrow3.ne h2 (by decide))
            clear hb3 hn3 hst3 hrow3 hks3 hnew3 hx3 hpw3
            go_wp2_with (at_builtin; refine wpList_append_own_at _ rfl _ _ 30 rfl B 32 i0 _ 7 80 Tryz.underlying30 hi hz0 hz1 hz2 rfl (by decide) (.slice al ks.length c) ks.length (xs0 ++ xs3) rfl (unhide HROW3).1 ⟨g3, 0, none⟩ 1 1 (exCells bx (.slice none bx.kids.length 0)) rfl rfl (news7 (unhide HN3)) one7 (by unfold maxLen; omega) (by omega) (unhide HBW) ?_; intro v8 w8 hown8 hgrow8 _ hat8; obtain ⟨a8, b8, rfl⟩ := owns_slice hown8; (have HST8 := hide ((unhide HST3).1.add (unhide HST3).2.1 (unhide HROW3) (unhide HST3).2.2.1 (unhide HST3).2.2.2 (unhide HPB) (unhide HBS) (unhide HST3).1.kq.size (unhide HPW3) hown8 hgrow8 hat8)); clear hown8 hgrow8 hat8)
            clear e3 hg3 HN3 HROW3 HST3 HBW HPW3 HST
            have hl2 : (ks ++ [bx]).length = ks.length + 1 := by simp
            obtain ⟨ks2, hks2⟩ : ∃ ks2, ks ++ [bx] = ks2 := ⟨_, rfl⟩
            rw [hks2] at hl2 HST8
            rw [← hl2] at HST8 ⊢
            have HST1 := HST8
            have HL3 := hide hl2
            have hl5 : ks2.length ≤ 2000000 := by omega
            clear HST8 hks2 hl2 hl
            have HC := hide ((unhide HSF) m (by have := unhide HGN; omega) p s.pop w8 ((unhide HQ).goR (unhide HST1).kq (unhide HST1).pv (unhide HV0)) h2)
            go_wp2_with fail
            refine (unhide HC).mono ?_
            rintro e w99 ⟨rfl, r2⟩
            have HK9 := hide ((unhide HST1).kq.andThen r2 (fun _ _ h => .inl h))
            clear r2 HC
            go_wp2_with fail
            exact ⟨rfl, rfl, unhide HK9⟩
          | ok x s1 =>
            rw [h2, PR.bind_ok] at hr1
            have HR2 := hide hr1
            have HL2 := hide hl
            clear hr1
            go_wp2_with fail
            refine (poperator_at (unhide HST).pv (t := [47]) (okL_p rfl) rfl h1).mono ?_
            rintro e w1 ⟨rfl, r1, r2⟩
            have HST1 := hide ((unhide HST).go r2 r1 (unhide HPB))
            clear r1 r2 HST
            go_wp2_with fail
            refine (poperator_at (unhide HST1).pv (t := [47, 47]) (okL_p rfl) rfl h3).mono ?_
            rintro e w2 ⟨rfl, r1, r2⟩
            have HST2 := hide ((unhide HST1).go r2 r1 (unhide HPB))
            clear r1 r2 HST1
            go_wp2_with fail
            refine (pbelow_any _).mono ?_
            rintro e w3 ⟨he, hb⟩
            have HST := hide ((unhide HST2).below hb (unhide HPB))
            clear hb HST2
            obtain ⟨bx, hbx⟩ : ∃ bx, belowX = bx := ⟨_, rfl⟩
            have hbk : bx.kids.length = 0 := by rw [← hbx]; rfl
            have HBX : Hid (∀ (w : World) (S : Nat → Prop), exV w S bx (.slice none bx.kids.length 0)) := hide fun w S => ⟨by rw [← hbx]; exact (fun c hc => by cases hc), [], ⟨⟨_, _, rfl, by omega⟩, fun h => by omega⟩, by rw [← hbx]; exact (by rw [show (belowX).kids = [] from rfl, kidsIn])⟩
            have he2 : e = .returned (exAgg bx (.slice none bx.kids.length 0)) := by rw [he, hbk, hbx]
            rw [hbx] at HR2
            clear hbk hbx he
            subst he2
            have hb3 : Below w3.heap.size w3 (w3.alloc (oneB bx (.slice none bx.kids.length 0))) := (Below.refl _ _).alloc (Nat.le_refl _) _
            have hn3 := palloc_new w3 (oneB bx (.slice none bx.kids.length 0))
            have hst3 := (unhide HST).below hb3 (unhide HPB)
            obtain ⟨ks3, xs3, hks3, hrow3, hnew3⟩ := hst3.row
            have hx3 := unhide HBX (w3.alloc (oneB bx (.slice none bx.kids.length 0))) (fun j => (w.heap.size ≤ j ∧ (Value.slice al ks.length c).ownBlock ≠ some j) ∧ j < (w3.alloc (oneB bx (.slice none bx.kids.length 0))).heap.size)
            generalize hg3 : w3.heap.size = g3 at hn3
            obtain ⟨W3, e3⟩ : ∃ W3, w3.alloc (oneB bx (.slice none bx.kids.length 0)) = W3 := ⟨_, rfl⟩
            rw [e3] at hb3 hn3 hst3 hrow3 hx3 hnew3
            have HN3 := hide hn3
            have HROW3 := hide hrow3
            have HST3 := hide (And.intro hst3 (And.intro hks3 (And.intro hnew3 hx3)))
            have HBW := hide (show B ≤ W3.heap.size from Nat.le_trans (unhide HBS) (Nat.le_trans (unhide HST).kq.size hb3.size))
            have hpw3 := hst3.pv
            have HPW3 := hide (show (.slice al ks.length c : Value).ownBlock ≠ some p from by obtain ⟨_, _, u, h2, _⟩ := hpw3; exact hrow3.ne h2 (by decide))
            clear hb3 hn3 hst3 hrow3 hks3 hnew3 hx3 hpw3
            go_wp2_with (at_builtin; refine wpList_append_own_at _ rfl _ _ 30 rfl B 32 i0 _ 7 80 Tryz.underlying30 hi hz0 hz1 hz2 rfl (by decide) (.slice al ks.length c) ks.length (xs0 ++ xs3) rfl (unhide HROW3).1 ⟨g3, 0, none⟩ 1 1 (exCells bx (.slice none bx.kids.length 0)) rfl rfl (news7 (unhide HN3)) one7 (by unfold maxLen; omega) (by omega) (unhide HBW) ?_; intro v8 w8 hown8 hgrow8 _ hat8; obtain ⟨a8, b8, rfl⟩ := owns_slice hown8; (have HST8 := hide ((unhide HST3).1.add (unhide HST3).2.1 (unhide HROW3) (unhide HST3).2.2.1 (unhide HST3).2.2.2 (unhide HPB) (unhide HBS) (unhide HST3).1.kq.size (unhide HPW3) hown8 hgrow8 hat8)); clear hown8 hgrow8 hat8)
            clear e3 hg3 HN3 HROW3 HST3 HBW HPW3 HST
            have hl2 : (ks ++ [bx]).length = ks.length + 1 := by simp
            obtain ⟨ks2, hks2⟩ : ∃ ks2, ks ++ [bx] = ks2 := ⟨_, rfl⟩
            rw [hks2] at hl2 HST8 HR2
            rw [← hl2] at HST8 ⊢
            have HST1 := HST8
            have HL3 := hide hl2
            have hl5 : ks2.length ≤ 2000000 := by omega
            clear HST8 hks2 hl2 hl
            have HC := hide ((unhide HS) m (by have := unhide HGN; omega) p s.pop w8 x s1 ((unhide HQ).goR (unhide HST1).kq (unhide HST1).pv (unhide HV0)) h2)
            go_wp2_with fail
            refine (unhide HC).mono ?_
            rintro e w9 ⟨al2, c2, rfl, r2⟩
            have HST := hide ((unhide HST1).go r2.kq r2.pv (unhide HPB))
            have HX := hide r2
            have hs12 := (unhide HST1).lows
            clear r2 HC
            have hb3 : Below w9.heap.size w9 (w9.alloc (oneB x (.slice al2 x.kids.length c2))) := (Below.refl _ _).alloc (Nat.le_refl _) _
            have hn3 := palloc_new w9 (oneB x (.slice al2 x.kids.length c2))
            have hst3 := (unhide HST).below hb3 (unhide HPB)
            obtain ⟨ks3, xs3, hks3, hrow3, hnew3⟩ := hst3.row
            have hx3 := (((unhide HX).ex.bound.mono (S' := fun j => (w.heap.size ≤ j ∧ (Value.slice a8 ks2.length b8).ownBlock ≠ some j) ∧ j < w9.heap.size) (fun j hj => ⟨⟨by have := (unhide HST1).kq.size; omega, fun e => by have := hs12 j e; omega⟩, hj.2⟩) (fun _ _ _ h => h)).kept (Kq.of (S := fun _ => False) hb3) (fun _ _ _ h => h)).mono (S' := fun j => (w.heap.size ≤ j ∧ (Value.slice a8 ks2.length b8).ownBlock ≠ some j) ∧ j < (w9.alloc (oneB x (.slice al2 x.kids.length c2))).heap.size) (fun j hj => ⟨hj.1, Nat.lt_of_lt_of_le hj.2 hb3.size⟩) (fun _ _ _ h => h)
            generalize hg3 : w9.heap.size = g3 at hn3
            obtain ⟨W3, e3⟩ : ∃ W3, w9.alloc (oneB x (.slice al2 x.kids.length c2)) = W3 := ⟨_, rfl⟩
            rw [e3] at hb3 hn3 hst3 hrow3 hx3 hnew3
            have HN3 := hide hn3
            have HROW3 := hide hrow3
            have HST3 := hide (And.intro hst3 (And.intro hks3 (And.intro hnew3 hx3)))
            have HBW := hide (show B ≤ W3.heap.size from Nat.le_trans (unhide HBS) (Nat.le_trans (unhide HST).kq.size hb3.size))
            have hpw3 := hst3.pv
            have HPW3 := hide (show (.slice a8 ks2.length b8 : Value).ownBlock ≠ some p from by obtain ⟨_, _, u, h2, _⟩ := hpw3; exact hrow3.ne h2 (by decide))
            clear hb3 hn3 hst3 hrow3 hks3 hnew3 hx3 hpw3
            go_wp2_with (at_builtin; refine wpList_append_own_at _ rfl _ _ 30 rfl B 32 i0 _ 7 80 Tryz.underlying30 hi hz0 hz1 hz2 rfl (by decide) (.slice a8 ks2.length b8) ks2.length (xs0 ++ xs3) rfl (unhide HROW3).1 ⟨g3, 0, none⟩ 1 1 (exCells x (.slice al2 x.kids.length c2)) rfl rfl (news7 (unhide HN3)) one7 (by unfold maxLen; omega) (by omega) (unhide HBW) ?_; intro v8 w10 hown8 hgrow8 _ hat8; obtain ⟨a9, b9, rfl⟩ := owns_slice hown8; (have HST8 := hide ((unhide HST3).1.add (unhide HST3).2.1 (unhide HROW3) (unhide HST3).2.2.1 (unhide HST3).2.2.2 (unhide HPB) (unhide HBS) (unhide HST3).1.kq.size (unhide HPW3) hown8 hgrow8 hat8)); clear hown8 hgrow8 hat8)
            clear e3 hg3 HN3 HROW3 HST3 HBW HPW3 HST
            go_roundg m
            case measure => omega
            case rel =>
              have hl2 : (ks2 ++ [x]).length = ks2.length + 1 := by simp
              have h8 := unhide HST8
              rw [← hl2] at h8
              exact ⟨by have := unhide HGN; omega, ks2 ++ [x], a9, b9, s1, by rw [hl2], by have := unhide HL2; have := unhide HL3; omega, HR2, hide h8⟩
        | false =>
          rw [h3, if_neg (by decide)] at hr1
          cases hr1
set_option maxRecDepth 100000 in
set_option maxHeartbeats 2000000 in
theorem ppreds_fail (W0 : World) (n : Nat) (hE : ∀ m, m ≤ n → ExprC numP W0 m) (hEF : ∀ m, m ≤ n → ExprF W0 m) : PredsF W0 (n + 1) := by
  intro p B al0 c0 ks0 xs0 s0 w hQ hpB hBs hrow hlen hr
  have HR := hide hr
  have HS := hide hE
  have HSF := hide hEF
  have HST0 : Hid (RowSt w w p B (.slice al0 ks0.length c0) ks0 xs0 (.slice al0 ks0.length c0) ks0 s0) := hide (RowSt.start hrow hQ.pv (Kq.refl _ _) hQ.pv.lt)
  obtain ⟨i0, hi, hz0, hz1, hz2⟩ := info_parts infoExpr
  have HPB := hide hpB
  have HBS := hide hBs
  have HQ := hide hQ
  have HL := hide hlen
  have HV0 := hide (fun j (e : (Value.slice al0 ks0.length c0).ownBlock = some j) => show W0.heap.size ≤ j from by have := (hrow.lt j e).1; have := hQ.lo; omega)
  clear hr hE hEF hQ hpB hBs hrow hlen
  go_enter Tryz.func112, Tryz.ntmps112
  go_wp2_with fail
  go_loopg [1] (n + 1) (fun gk kv wr => gk ≤ n + 1 ∧ ∃ (ks : List Ex) (al : Option Addr) (c : Nat) (s : PS), kv = .slice al ks.length c ∧ ks.length + 2 * gk ≤ 2000000 ∧ Hid (predsP numP gk ks s = .fail) ∧ Hid (RowSt w wr p B (.slice al0 ks0.length c0) ks0 xs0 (.slice al ks.length c) ks s))
  case atStart => exact ⟨Nat.le_refl _, ks0, al0, c0, s0, rfl, unhide HL, HR, HST0⟩
  case round =>
    obtain ⟨hgn, ks, al, c, s, rfl, hl, HR1, HST⟩ := hrel
    have HGN := hide hgn
    clear hgn HST0 HR HL
    cases gk with
    | zero =>
      have := unhide HR1
      rw [predsP] at this
      cases this
    | succ m =>
      have hr1 := unhide HR1
      rw [predsP] at hr1
      clear HR1
      cases h1 : headIs 9 [91] s with
      | true =>
        rw [h1, if_pos rfl] at hr1
        cases h2 : exprP numP m 0 s.pop with
        | out => rw [h2, PR.bind_out] at hr1; cases hr1
        | fail =>
          have HL2 := hide hl
          clear hr1
          go_wp2_with fail
          refine (psign_at (unhide HST).pv (t := [91]) (okL_p rfl) rfl h1).mono ?_
          rintro e w1 ⟨rfl, r1, r2⟩
          have HST1 := hide ((unhide HST).go r2 r1 (unhide HPB))
          clear r1 r2 HST
          have HC := hide ((unhide HSF) m (by have := unhide HGN; omega) p 0 0 s.pop w1 rfl (by decide) ((unhide HQ).goR (unhide HST1).kq (unhide HST1).pv (unhide HV0)) h2)
          go_wp2_with fail
          refine (unhide HC).mono ?_
          rintro e w99 ⟨rfl, r2⟩
          have HK9 := hide ((unhide HST1).kq.andThen r2 (fun _ _ h => .inl h))
          clear r2 HC
          go_wp2_with fail
          exact ⟨rfl, rfl, unhide HK9⟩
        | ok x s1 =>
          rw [h2, PR.bind_ok] at hr1
          cases h3 : headIs 9 [93] s1 with
          | false =>
            have HL2 := hide hl
            clear hr1
            go_wp2_with fail
            refine (psign_at (unhide HST).pv (t := [91]) (okL_p rfl) rfl h1).mono ?_
            rintro e w1 ⟨rfl, r1, r2⟩
            have HST1 := hide ((unhide HST).go r2 r1 (unhide HPB))
            clear r1 r2 HST
            have HC := hide ((unhide HS) m (by have := unhide HGN; omega) p 0 0 s.pop w1 x s1 rfl (by decide) ((unhide HQ).goR (unhide HST1).kq (unhide HST1).pv (unhide HV0)) h2)
            go_wp2_with fail
            refine (unhide HC).mono ?_
            rintro e w2 ⟨al2, c2, rfl, r2⟩
            have HST := hide ((unhide HST1).go r2.kq r2.pv (unhide HPB))
            have HX := hide r2
            have hs12 := (unhide HST1).lows
            clear r2 HC
            have hb3 : Below w2.heap.size w2 (w2.alloc (oneB x (.slice al2 x.kids.length c2))) := (Below.refl _ _).alloc (Nat.le_refl _) _
            have hn3 := palloc_new w2 (oneB x (.slice al2 x.kids.length c2))
            have hst3 := (unhide HST).below hb3 (unhide HPB)
            obtain ⟨ks3, xs3, hks3, hrow3, hnew3⟩ := hst3.row
            have hx3 := (((unhide HX).ex.bound.mono (S' := fun j => (w.heap.size ≤ j ∧ (Value.slice al ks.length c).ownBlock ≠ some j) ∧ j < w2.heap.size) (fun j hj => ⟨⟨by have := (unhide HST1).kq.size; omega, fun e => by have := hs12 j e; omega⟩, hj.2⟩) (fun _ _ _ h => h)).kept (Kq.of (S := fun _ => False) hb3) (fun _ _ _ h => h)).mono (S' := fun j => (w.heap.size ≤ j ∧ (Value.slice al ks.length c).ownBlock ≠ some j) ∧ j < (w2.alloc (oneB x (.slice al2 x.kids.length c2))).heap.size) (fun j hj => ⟨hj.1, Nat.lt_of_lt_of_le hj.2 hb3.size⟩) (fun _ _ _ h => h)
            generalize hg3 : w2.heap.size = g3 at hn3
            obtain ⟨W3, e3⟩ : ∃ W3, w2.alloc (oneB x (.slice al2 x.kids.length c2)) = W3 := ⟨_, rfl⟩
            rw [e3] at hb3 hn3 hst3 hrow3 hx3 hnew3
            have HN3 := hide hn3
            have HROW3 := hide hrow3
            have HST3 := hide (And.intro hst3 (And.intro hks3 (And.intro hnew3 hx3)))
            have HBW := hide (show B ≤ W3.heap.size from Nat.le_trans (unhide HBS) (Nat.le_trans (unhide HST).kq.size hb3.size))
            have hpw3 := hst3.pv
            have HPW3 := hide (show (.slice al ks.length c : Value).ownBlock ≠ some p from by obtain ⟨_, _, u, h2, _⟩ := hpw3; exact hrow3.ne h2 (by decide))
            clear hb3 hn3 hst3 hrow3 hks3 hnew3 hx3 hpw3
            go_wp2_with (at_builtin; refine wpList_append_own_at _ rfl _ _ 30 rfl B 32 i0 _ 7 80 Tryz.underlying30 hi hz0 hz1 hz2 rfl (by decide) (.slice al ks.length c) ks.length (xs0 ++ xs3) rfl (unhide HROW3).1 ⟨g3, 0, none⟩ 1 1 (exCells x (.slice al2 x.kids.length c2)) rfl rfl (news7 (unhide HN3)) one7 (by unfold maxLen; omega) (by omega) (unhide HBW) ?_; intro v8 w8 hown8 hgrow8 _ hat8; obtain ⟨a8, b8, rfl⟩ := owns_slice hown8; (have HST8 := hide ((unhide HST3).1.add (unhide HST3).2.1 (unhide HROW3) (unhide HST3).2.2.1 (unhide HST3).2.2.2 (unhide HPB) (unhide HBS) (unhide HST3).1.kq.size (unhide HPW3) hown8 hgrow8 hat8)); clear hown8 hgrow8 hat8)
            clear e3 hg3 HN3 HROW3 HST3 HBW HPW3 HST
            refine (pneedNo_at (unhide HST8).pv (t := [93]) (okL_p rfl) rfl h3).mono ?_
            rintro e w99 ⟨rfl, r2⟩
            have HK9 := hide ((unhide HST8).kq.andThen r2 (fun _ _ h => .inl h))
            clear r2
            go_wp2_with fail
            exact ⟨rfl, rfl, unhide HK9⟩
          | true =>
            rw [h3, if_pos rfl] at hr1
            have HR2 := hide hr1
            have HL2 := hide hl
            clear hr1
            go_wp2_with fail
            refine (psign_at (unhide HST).pv (t := [91]) (okL_p rfl) rfl h1).mono ?_
            rintro e w1 ⟨rfl, r1, r2⟩
            have HST1 := hide ((unhide HST).go r2 r1 (unhide HPB))
            clear r1 r2 HST
            have HC := hide ((unhide HS) m (by have := unhide HGN; omega) p 0 0 s.pop w1 x s1 rfl (by decide) ((unhide HQ).goR (unhide HST1).kq (unhide HST1).pv (unhide HV0)) h2)
            go_wp2_with fail
            refine (unhide HC).mono ?_
            rintro e w2 ⟨al2, c2, rfl, r2⟩
            have HST := hide ((unhide HST1).go r2.kq r2.pv (unhide HPB))
            have HX := hide r2
            have hs12 := (unhide HST1).lows
            clear r2 HC
            have hb3 : Below w2.heap.size w2 (w2.alloc (oneB x (.slice al2 x.kids.length c2))) := (Below.refl _ _).alloc (Nat.le_refl _) _
            have hn3 := palloc_new w2 (oneB x (.slice al2 x.kids.length c2))
            have hst3 := (unhide HST).below hb3 (unhide HPB)
            obtain ⟨ks3, xs3, hks3, hrow3, hnew3⟩ := hst3.row
            have hx3 := (((unhide HX).ex.bound.mono (S' := fun j => (w.heap.size ≤ j ∧ (Value.slice al ks.length c).ownBlock ≠ some j) ∧ j < w2.heap.size) (fun j hj => ⟨⟨by have := (unhide HST1).kq.size; omega, fun e => by have := hs12 j e; omega⟩, hj.2⟩) (fun _ _ _ h => h)).kept (Kq.of (S := fun _ => False) hb3) (fun _ _ _ h => h)).mono (S' := fun j => (w.heap.size ≤ j ∧ (Value.slice al ks.length c).ownBlock ≠ some j) ∧ j < (w2.alloc (oneB x (.slice al2 x.kids.length c2))).heap.size) (fun j hj => ⟨hj.1, Nat.lt_of_lt_of_le hj.2 hb3.size⟩) (fun _ _ _ h => h)
            generalize hg3 : w2.heap.size = g3 at hn3
            obtain ⟨W3, e3⟩ : ∃ W3, w2.alloc (oneB x (.slice al2 x.kids.length c2)) = W3 := ⟨_, rfl⟩
            rw [e3] at hb3 hn3 hst3 hrow3 hx3 hnew3
            have HN3 := hide hn3
            have HROW3 := hide hrow3
            have HST3 := hide (And.intro hst3 (And.intro hks3 (And.intro hnew3 hx3)))
            have HBW := hide (show B ≤ W3.heap.size from Nat.le_trans (unhide HBS) (Nat.le_trans (unhide HST).kq.size hb3.size))
            have hpw3 := hst3.pv
            have HPW3 := hide (show (.slice al ks.length c : Value).ownBlock ≠ some p from by obtain ⟨_, _, u, h2, _⟩ := hpw3; exact hrow3.ne h2 (by decide))
            clear hb3 hn3 hst3 hrow3 hks3 hnew3 hx3 hpw3
            go_wp2_with (at_builtin; refine wpList_append_own_at _ rfl _ _ 30 rfl B 32 i0 _ 7 80 Tryz.underlying30 hi hz0 hz1 hz2 rfl (by decide) (.slice al ks.length c) ks.length (xs0 ++ xs3) rfl (unhide HROW3).1 ⟨g3, 0, none⟩ 1 1 (exCells x (.slice al2 x.kids.length c2)) rfl rfl (news7 (unhide HN3)) one7 (by unfold maxLen; omega) (by omega) (unhide HBW) ?_; intro v8 w8 hown8 hgrow8 _ hat8; obtain ⟨a8, b8, rfl⟩ := owns_slice hown8; (have HST8 := hide ((unhide HST3).1.add (unhide HST3).2.1 (unhide HROW3) (unhide HST3).2.2.1 (unhide HST3).2.2.2 (unhide HPB) (unhide HBS) (unhide HST3).1.kq.size (unhide HPW3) hown8 hgrow8 hat8)); clear hown8 hgrow8 hat8)
            clear e3 hg3 HN3 HROW3 HST3 HBW HPW3 HST
            refine (pneed_at (unhide HST8).pv (t := [93]) (okL_p rfl) rfl h3).mono ?_
            rintro e w9 ⟨rfl, r1, r2⟩
            have HST9 := hide ((unhide HST8).go r2 r1 (unhide HPB))
            clear r1 r2 HST8
            go_wp2_with fail
            go_roundg m
            case measure => omega
            case rel =>
              have hl2 : (ks ++ [x]).length = ks.length + 1 := by simp
              have h8 := unhide HST9
              rw [← hl2] at h8
              exact ⟨by have := unhide HGN; omega, ks ++ [x], a8, b8, s1.pop, by rw [hl2], by have := unhide HL2; omega, HR2, hide h8⟩
      | false =>
        rw [h1, if_neg (by decide)] at hr1
        cases hr1
set_option maxRecDepth 100000 in
set_option maxHeartbeats 2000000 in
theorem pargs_fail (W0 : World) (n : Nat) (hn : n ≤ 90000) (hE : ∀ m, m ≤ n → ExprC numP W0 m) (hEF : ∀ m, m ≤ n → ExprF W0 m) : ArgsF W0 (n + 1) := by
  intro p s0 w hQ hr
  have HS := hide hE
  have HSF := hide hEF
  have HQ := hide hQ
  have HPB := hide hQ.pv.lt
  have HBS := hide (Nat.le_refl w.heap.size)
  have HPV := hide hQ.pv
  obtain ⟨i0, hi, hz0, hz1, hz2⟩ := info_parts infoExpr
  have HV0 := hide (fun j (e : (Value.slice none 0 0).ownBlock = some j) => show W0.heap.size ≤ j from by cases e)
  rw [argsP] at hr
  clear hE hEF hQ
  cases h0 : headIs 9 [40] s0 with
  | false =>
    clear hr
    go_enter Tryz.func132, Tryz.ntmps132
    go_wp2_with fail
    refine (pneedNo_at (unhide HPV) (t := [40]) (okL_p rfl) rfl h0).mono ?_
    rintro e w99 ⟨rfl, r2⟩
    have HK9 := hide r2
    clear r2
    go_wp2_with fail
    exact ⟨rfl, rfl, unhide HK9⟩
  | true =>
    rw [h0, if_pos rfl] at hr
    cases h1 : headIs 9 [41] s0.pop with
    | true =>
      rw [h1, if_pos rfl] at hr
      cases hr
    | false =>
      rw [h1, if_neg (by decide)] at hr
      have HR := hide hr
      clear hr
      go_enter Tryz.func132, Tryz.ntmps132
      go_wp2_with fail
      refine (pneed_at (unhide HPV) (t := [40]) (okL_p rfl) rfl h0).mono ?_
      rintro e w1 ⟨rfl, r1, r2⟩
      have HPV1 := hide r1
      have HK1 := hide r2
      clear r1 r2
      go_wp2_with fail
      refine (psign_at (unhide HPV1) (t := [41]) (okL_p rfl) rfl h1).mono ?_
      rintro e w2 ⟨rfl, r1, r2⟩
      have HPV2 : Hid (PV w2 p s0.pop) := hide r1
      have HK2 := hide ((unhide HK1).andThen r2 (fun _ _ h => h))
      clear r1 r2
      have HST0 : Hid (RowSt w w2 p w.heap.size (.slice none 0 0) [] [] (.slice none 0 0) [] s0.pop) := hide (RowSt.start (KRow.nil _ _) (unhide HPV2) ((unhide HK2).more (fun _ _ h => .inl h)) (unhide HPB))
      generalize hB : w.heap.size = B at HPB HBS HST0 ⊢
      have HB := hide hB
      clear hB
      go_wp2_with fail
      go_loopg [3] n (fun gk kv wr => gk ≤ n ∧ ∃ (ks : List Ex) (al : Option Addr) (c : Nat) (s : PS), kv = .slice al ks.length c ∧ ks.length + 2 * gk ≤ 2000000 ∧ Hid (argsGoP numP gk ks s = .fail) ∧ Hid (RowSt w wr p B (.slice none 0 0) [] [] (.slice al ks.length c) ks s))
      case atStart => exact ⟨Nat.le_refl _, [], none, 0, s0.pop, rfl, by simp; omega, HR, HST0⟩
      case round =>
        obtain ⟨hgn, ks, al, c, s, rfl, hl, HR1, HST⟩ := hrel
        have HGN := hide hgn
        clear hgn HST0 HR
        cases gk with
        | zero =>
          have := unhide HR1
          rw [argsGoP] at this
          cases this
        | succ m =>
          have hr1 := unhide HR1
          rw [argsGoP] at hr1
          clear HR1
          cases h2 : exprP numP m 0 s with
          | out => rw [h2, PR.bind_out] at hr1; cases hr1
          | fail =>
            have HL2 := hide hl
            clear hr1
            have HST1 := HST
            have HC := hide ((unhide HSF) m (by have := unhide HGN; omega) p 0 0 s wr rfl (by decide) ((unhide HQ).goR (unhide HST1).kq (unhide HST1).pv (unhide HV0)) h2)
            go_wp2_with fail
            refine (unhide HC).mono ?_
            rintro e w99 ⟨rfl, r2⟩
            have HK9 := hide ((unhide HST1).kq.andThen r2 (fun _ _ h => .inl h))
            clear r2 HC
            go_wp2_with fail
            exact ⟨rfl, rfl, (unhide HK9).more (fun j _ h => h.elim id (fun e => by cases e))⟩
          | ok x s1 =>
            rw [h2, PR.bind_ok] at hr1
            have HL2 := hide hl
            have HR2 := hide hr1
            clear hr1
            have HST1 := HST
            have HC := hide ((unhide HS) m (by have := unhide HGN; omega) p 0 0 s wr x s1 rfl (by decide) ((unhide HQ).goR (unhide HST1).kq (unhide HST1).pv (unhide HV0)) h2)
            clear HST
            go_wp2_with fail
            refine (unhide HC).mono ?_
            rintro e w2 ⟨al2, c2, rfl, r2⟩
            have HST := hide ((unhide HST1).go r2.kq r2.pv (unhide HPB))
            have HX := hide r2
            have hs12 := (unhide HST1).lows
            clear r2 HC
            have hb3 : Below w2.heap.size w2 (w2.alloc (oneB x (.slice al2 x.kids.length c2))) := (Below.refl _ _).alloc (Nat.le_refl _) _
            have hn3 := palloc_new w2 (oneB x (.slice al2 x.kids.length c2))
            have hst3 := (unhide HST).below hb3 (unhide HPB)
            obtain ⟨ks3, xs3, hks3, hrow3, hnew3⟩ := hst3.row
            have hx3 := (((unhide HX).ex.bound.mono (S' := fun j => (w.heap.size ≤ j ∧ (Value.slice al ks.length c).ownBlock ≠ some j) ∧ j < w2.heap.size) (fun j hj => ⟨⟨by have := (unhide HST1).kq.size; omega, fun e => by have := hs12 j e; omega⟩, hj.2⟩) (fun _ _ _ h => h)).kept (Kq.of (S := fun _ => False) hb3) (fun _ _ _ h => h)).mono (S' := fun j => (w.heap.size ≤ j ∧ (Value.slice al ks.length c).ownBlock ≠ some j) ∧ j < (w2.alloc (oneB x (.slice al2 x.kids.length c2))).heap.size) (fun j hj => ⟨hj.1, Nat.lt_of_lt_of_le hj.2 hb3.size⟩) (fun _ _ _ h => h)
            generalize hg3 : w2.heap.size = g3 at hn3
            obtain ⟨W3, e3⟩ : ∃ W3, w2.alloc (oneB x (.slice al2 x.kids.length c2)) = W3 := ⟨_, rfl⟩
            rw [e3] at hb3 hn3 hst3 hrow3 hx3 hnew3
            have HN3 := hide hn3
            have HROW3 := hide hrow3
            have HST3 := hide (And.intro hst3 (And.intro hks3 (And.intro hnew3 hx3)))
            have HBW := hide (show B ≤ W3.heap.size from by have h1 := unhide HB; have h2 := (unhide HST).kq.size; have h3 := hb3.size; omega)
            have hpw3 := hst3.pv
            have HPW3 := hide (show (.slice al ks.length c : Value).ownBlock ≠ some p from by obtain ⟨_, _, u, h2, _⟩ := hpw3; exact hrow3.ne h2 (by decide))
            clear hb3 hn3 hst3 hrow3 hks3 hnew3 hx3 hpw3
            go_wp2_with (at_builtin; refine wpList_append_own_at _ rfl _ _ 30 rfl B 32 i0 _ 7 80 Tryz.underlying30 hi hz0 hz1 hz2 rfl (by decide) (.slice al ks.length c) ks.length (([] : List Value) ++ xs3) rfl (unhide HROW3).1 ⟨g3, 0, none⟩ 1 1 (exCells x (.slice al2 x.kids.length c2)) rfl rfl (news7 (unhide HN3)) one7 (by unfold maxLen; omega) (by omega) (unhide HBW) ?_; intro v8 w8 hown8 hgrow8 _ hat8; obtain ⟨a8, b8, rfl⟩ := owns_slice hown8; (have HST8 := hide ((unhide HST3).1.add (unhide HST3).2.1 (unhide HROW3) (unhide HST3).2.2.1 (unhide HST3).2.2.2 (unhide HPB) (by have h1 := unhide HB; omega) (unhide HST3).1.kq.size (unhide HPW3) hown8 hgrow8 hat8)); clear hown8 hgrow8 hat8)
            clear e3 hg3 HN3 HROW3 HST3 HBW HPW3 HST
            have hl2 : (ks ++ [x]).length = ks.length + 1 := by simp
            have h8 := unhide HST8
            rw [← hl2] at h8
            have HST9 := hide h8
            have HLL := hide hl2
            clear h8 HST8 hl2
            cases h3 : headIs 9 [44] s1 with
            | true =>
              have hr2 := unhide HR2
              rw [h3, if_pos rfl] at hr2
              have HR3 := hide hr2
              clear hr2 HR2
              refine (psign_at (unhide HST9).pv (t := [44]) (okL_p rfl) rfl h3).mono ?_
              rintro e w9 ⟨rfl, r1, r2⟩
              have HST10 := hide ((unhide HST9).go r2 r1 (unhide HPB))
              clear r1 r2 HST9
              go_wp2_with fail
              go_roundg m
              case measure => omega
              case rel => exact ⟨by have := unhide HGN; omega, ks ++ [x], a8, b8, s1.pop, by rw [unhide HLL], by have := unhide HL2; have := unhide HLL; omega, HR3, HST10⟩
            | false =>
              have hr2 := unhide HR2
              rw [h3, if_neg (by decide)] at hr2
              cases h4 : headIs 9 [41] s1 with
              | false =>
                clear hr2 HR2
                refine (psign_at (unhide HST9).pv (t := [44]) (okL_p rfl) rfl h3).mono ?_
                rintro e w9 ⟨rfl, r1, r2⟩
                have HST10 := hide ((unhide HST9).go r2 r1 (unhide HPB))
                clear r1 r2 HST9
                go_wp2_with fail
                refine (pneedNo_at (unhide HST10).pv (t := [41]) (okL_p rfl) rfl h4).mono ?_
                rintro e w99 ⟨rfl, r2⟩
                have HK9 := hide ((unhide HST10).kq.andThen r2 (fun _ _ h => .inl h))
                clear r2
                go_wp2_with fail
                exact ⟨rfl, rfl, (unhide HK9).more (fun j _ h => h.elim id (fun e => by cases e))⟩
              | true =>
                rw [h4, if_pos rfl] at hr2
                cases hr2
end Go.Proofs.YthkkfldmoflfaaaGreatDoor
