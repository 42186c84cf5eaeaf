/- Where xparse's parser gives up: primary, filtered. -/
import Derived.Test.YtnmcambbpgoodaaGreatDoorGbo
namespace Go.Proofs.YtnmcambbpgoodaaGreatDoor
open Go.RowKit Go.Maps
set_option maxRecDepth 100000 in
set_option maxHeartbeats 2000000 in
theorem pprim_fail (W0 : World) (n : Nat) (hG : EnvG W0) (hB : BrF W0 n) (hA : ArgsF W0 n) : PrimF W0 (n + 1) := by
  intro p s w hQ hr
  have HG := hide hG
  have HBR := hide hB
  have HAR := hide hA
  clear hG hB hA
  have HV0 := hide (hQ.alloc expr0).pv
  have HQ := hide (hQ.alloc expr0)
  have HPL := hide hQ.pv.lt
  have HR0 := hide (palloc_new w expr0)
  have HB := hide ((Below.refl w.heap.size w).alloc (Nat.le_refl _) expr0)
  have HK0 := hide (Kq.refl (fun j => j = p) (w.alloc expr0))
  rw [primP] at hr
  clear hQ
  cases h1 : headIs 9 [40] s with
  | true =>
    rw [h1, if_pos rfl] at hr
    go_enter Tryz.func88, Tryz.ntmps88
    go_wp2_with fail
    refine (psign_at (unhide HV0) (t := [40]) (okL_p rfl) rfl h1).mono ?_
    rintro e w1 ⟨rfl, r1, r2⟩
    have HV1 : Hid (PV w1 p s.pop) := hide r1
    have HK1 := hide ((unhide HK0).andThen r2 (fun _ _ h => h))
    clear r1 r2
    have HC := hide ((unhide HBR) p s.pop w1 ((unhide HQ).go (unhide HK1) (unhide HV1)) (by have h5 := head_len h1; have h6 := (unhide HQ).pv.1; have h7 : s.pop.opn = s.opn := rfl; omega) hr)
    go_wp2_with fail
    refine (unhide HC).mono ?_
    rintro e w9 ⟨rfl, r2⟩
    have HK9 := hide (((Kq.of (S := fun j => j = p) (unhide HB)).andThen (unhide HK1) (fun _ _ h => h)).andThen r2 (fun _ _ h => h))
    clear r2 HC
    go_wp2_with fail
    exact ⟨rfl, rfl, unhide HK9⟩
  | false =>
    rw [h1, if_neg (by decide)] at hr
    cases h2 : seesK 1 s with
    | true =>
      rw [h2, if_pos rfl] at hr
      cases h6 : numP (headT s) with
      | some v => rw [h6] at hr; cases hr
      | none =>
        go_enter Tryz.func88, Tryz.ntmps88
        go_wp2_with fail
        refine (psign_at (unhide HV0) (t := [40]) (okL_p rfl) rfl h1).mono ?_
        rintro e w1 ⟨rfl, r1, r2⟩
        have HV1 : Hid (PV w1 p s) := hide r1
        have HK1 := hide ((unhide HK0).andThen r2 (fun _ _ h => h))
        clear r1 r2
        go_wp2_with fail
        have HZ := hide ((unhide HV1).headz h2)
        refine (ptakeAny_yes (k := 1) (unhide HV1) h2).mono ?_
        rintro e w2 ⟨rfl, r1, r2⟩
        have HV2 : Hid (PV w2 p s.pop) := hide r1
        have HK2 := hide ((unhide HK1).andThen r2 (fun _ _ h => h))
        clear r1 r2
        go_wp2_with fail
        refine (pnumber_no (headT s) w2 (unhide HZ) ((unhide HG).below ((unhide HQ).belK (unhide HK2))) h6).mono ?_
        rintro e w9 ⟨rfl, r2⟩
        have HK9 := hide (((Kq.of (S := fun j => j = p) (unhide HB)).andThen (unhide HK2) (fun _ _ h => h)).andThen (Kq.of (S := fun j => j = p) r2) (fun _ _ h => h))
        clear r2
        go_wp2_with fail
        exact ⟨rfl, rfl, unhide HK9⟩
    | false =>
      rw [h2, if_neg (by decide)] at hr
      cases h3 : seesK 2 s with
      | true => rw [h3, if_pos rfl] at hr; cases hr
      | false =>
        rw [h3, if_neg (by decide)] at hr
        cases h4 : seesK 7 s with
        | true => rw [h4, if_pos rfl] at hr; cases hr
        | false =>
          rw [h4, if_neg (by decide)] at hr
          cases h5 : seesK 4 s with
          | false =>
            go_enter Tryz.func88, Tryz.ntmps88
            go_wp2_with fail
            refine (psign_at (unhide HV0) (t := [40]) (okL_p rfl) rfl h1).mono ?_
            rintro e w1 ⟨rfl, r1, r2⟩
            have HV1 : Hid (PV w1 p s) := hide r1
            have HK1 := hide ((unhide HK0).andThen r2 (fun _ _ h => h))
            clear r1 r2
            go_wp2_with fail
            refine (ptakeAny_no (k := 1) (unhide HV1) h2).mono ?_
            rintro e w2 ⟨rfl, r1, r2⟩
            have HV2 : Hid (PV w2 p s) := hide r1
            have HK2 := hide ((unhide HK1).andThen r2 (fun _ _ h => h))
            clear r1 r2
            go_wp2_with fail
            refine (ptakeAny_no (k := 2) (unhide HV2) h3).mono ?_
            rintro e w3 ⟨rfl, r1, r2⟩
            have HV3 : Hid (PV w3 p s) := hide r1
            have HK3 := hide ((unhide HK2).andThen r2 (fun _ _ h => h))
            clear r1 r2
            go_wp2_with fail
            refine (ptakeAny_no (k := 7) (unhide HV3) h4).mono ?_
            rintro e w4 ⟨rfl, r1, r2⟩
            have HV4 : Hid (PV w4 p s) := hide r1
            have HK4 := hide ((unhide HK3).andThen r2 (fun _ _ h => h))
            clear r1 r2
            go_wp2_with fail
            refine (ptakeAny_no (k := 4) (unhide HV4) h5).mono ?_
            rintro e w5 ⟨rfl, r1, r2⟩
            have HV5 : Hid (PV w5 p s) := hide r1
            have HK5 := hide ((unhide HK4).andThen r2 (fun _ _ h => h))
            clear r1 r2
            go_wp2_with fail
            refine (giveUp_any _).mono ?_
            rintro e w9 ⟨rfl, rfl⟩
            go_wp2_with fail
            exact ⟨rfl, rfl, ((Kq.of (S := fun j => j = p) (unhide HB)).andThen (unhide HK5) (fun _ _ h => h))⟩
          | true =>
            rw [h5, if_pos rfl] at hr
            cases h6 : argsP numP n s.pop with
            | out => rw [h6, PR.bind_out] at hr; cases hr
            | ok ks s1 => rw [h6, PR.bind_ok] at hr; cases hr
            | fail =>
              go_enter Tryz.func88, Tryz.ntmps88
              go_wp2_with fail
              refine (psign_at (unhide HV0) (t := [40]) (okL_p rfl) rfl h1).mono ?_
              rintro e w1 ⟨rfl, r1, r2⟩
              have HV1 : Hid (PV w1 p s) := hide r1
              have HK1 := hide ((unhide HK0).andThen r2 (fun _ _ h => h))
              clear r1 r2
              go_wp2_with fail
              refine (ptakeAny_no (k := 1) (unhide HV1) h2).mono ?_
              rintro e w2 ⟨rfl, r1, r2⟩
              have HV2 : Hid (PV w2 p s) := hide r1
              have HK2 := hide ((unhide HK1).andThen r2 (fun _ _ h => h))
              clear r1 r2
              go_wp2_with fail
              refine (ptakeAny_no (k := 2) (unhide HV2) h3).mono ?_
              rintro e w3 ⟨rfl, r1, r2⟩
              have HV3 : Hid (PV w3 p s) := hide r1
              have HK3 := hide ((unhide HK2).andThen r2 (fun _ _ h => h))
              clear r1 r2
              go_wp2_with fail
              refine (ptakeAny_no (k := 7) (unhide HV3) h4).mono ?_
              rintro e w4 ⟨rfl, r1, r2⟩
              have HV4 : Hid (PV w4 p s) := hide r1
              have HK4 := hide ((unhide HK3).andThen r2 (fun _ _ h => h))
              clear r1 r2
              go_wp2_with fail
              refine (ptakeAny_yes (k := 4) (unhide HV4) h5).mono ?_
              rintro e w5 ⟨rfl, r1, r2⟩
              have HV5 : Hid (PV w5 p s.pop) := hide r1
              have HK5 := hide ((unhide HK4).andThen r2 (fun _ _ h => h))
              clear r1 r2
              have HC := hide ((unhide HAR) p s.pop w5 ((unhide HQ).go (unhide HK5) (unhide HV5)) h6)
              go_wp2_with fail
              refine (unhide HC).mono ?_
              rintro e w9 ⟨rfl, r2⟩
              have HK9 := hide (((Kq.of (S := fun j => j = p) (unhide HB)).andThen (unhide HK5) (fun _ _ h => h)).andThen r2 (fun _ _ h => h))
              clear r2 HC
              go_wp2_with fail
              exact ⟨rfl, rfl, unhide HK9⟩
set_option maxRecDepth 100000 in
set_option maxHeartbeats 2000000 in
theorem pfilt_fail (W0 : World) (n : Nat) (hn : n ≤ 90000) (hP : PrimC numP W0 n) (hPF : PrimF W0 n) (hDF : PredsF W0 n) : FiltF W0 (n + 1) := by
  intro p s w hQ hr
  have HB := hide ((Below.refl w.heap.size w).alloc (Nat.le_refl _) expr0)
  have HPL := hide hQ.pv.lt
  have HQ := hide (hQ.alloc expr0)
  have HR0 := hide (palloc_new w expr0)
  have HP := hide hP
  have HPF := hide hPF
  have HD := hide hDF
  rw [filtP] at hr
  clear hQ hP hPF hDF
  cases h1 : primP numP n s with
  | out => rw [h1, PR.bind_out] at hr; cases hr
  | fail =>
    have HC := hide ((unhide HPF) p s _ (unhide HQ) h1)
    clear hr
    go_enter Tryz.func68, Tryz.ntmps68
    go_wp2_with fail
    refine (unhide HC).mono ?_
    rintro e w9 ⟨rfl, r2⟩
    have HK9 := hide ((Kq.of (S := fun j => j = p) (unhide HB)).andThen r2 (fun _ _ h => h))
    clear r2 HC
    go_wp2_with fail
    exact ⟨rfl, rfl, unhide HK9⟩
  | ok x1 s1 =>
    rw [h1, PR.bind_ok] at hr
    have HC := hide ((unhide HP) p s _ x1 s1 (unhide HQ) h1)
    have HKB := hide (show x1.kids.length ≤ 200003 from by
      have h2 := (kids_all numP n).2.2.2.2.2.2.2.1 s x1 s1 h1
      have h3 := (unhide HQ).pv.1
      omega)
    go_enter Tryz.func68, Tryz.ntmps68
    go_wp2_with fail
    refine (unhide HC).mono ?_
    rintro e w1 ⟨al, c, rfl, r2⟩
    have hq1 := blockK r2.kq (palloc_new w expr0) (by have := unhide HPL; omega)
    have hsa : (w.alloc expr0).heap.size = w.heap.size + 1 := by simp
    have hsz := r2.kq.size
    have HW1 := hide r2
    have hq2 : (w1.alloc expr0).heap[w1.heap.size]? = some expr0 := palloc_new w1 expr0
    have hlp : LoopX (w.alloc expr0) (put7 (w1.alloc expr0) w1.heap.size x1 (.slice al x1.kids.length c)) p w.heap.size w1.heap.size x1 (.slice al x1.kids.length c) s1 := by
      have hk := (Kq.of (S := fun j => j = w1.heap.size) ((Below.refl w1.heap.size w1).alloc (Nat.le_refl _) expr0)).andThen (put7_kq (w1.alloc expr0) w1.heap.size x1 (.slice al x1.kids.length c)) (fun _ _ h => h)
      refine ⟨put7_var hq2 _ _, blockK hk hq1 (by omega), ?_, r2.fl.kept hk (fun j hj _ e => by omega), r2.pv.kept hk (fun j e => by have := unhide HPL; omega), r2.kq.andThen hk (fun j hj e => by omega)⟩
      exact (r2.ex.bound.mono (S' := fun j => (w.alloc expr0).heap.size ≤ j ∧ j ≠ w1.heap.size) (fun j hj => ⟨hj.1, by omega⟩) (fun _ _ _ h => h)).kept hk (fun j hj _ e => hj.2 e)
    have HL := hide hlp
    have HKEEP := hide ((Kq.of (S := fun j => j = w1.heap.size) ((Below.refl w1.heap.size w1).alloc (Nat.le_refl _) expr0)).andThen (put7_kq (w1.alloc expr0) w1.heap.size x1 (.slice al x1.kids.length c)) (fun _ _ h => h))
    obtain ⟨a0, a1, a2, a3, a4, a5, a6⟩ := var_cells hq2
    obtain ⟨o0, o1, o2, o3, o4, o5, o6⟩ := var_opens hq2
    have HSA := hide (show w.heap.size < (w.alloc expr0).heap.size ∧ (w.alloc expr0).heap.size ≤ w1.heap.size ∧ p < w.heap.size from ⟨by omega, by omega, unhide HPL⟩)
    have HB2 := hide (And.intro (unhide HB) (Eq.refl w.heap.size))
    clear r2 hq1 hq2 hlp hsa hsz HC
    generalize hwa : w.alloc expr0 = wa at *
    clear hwa
    generalize hw1 : w1.alloc expr0 = wb at *
    generalize hq : w.heap.size = q at HL HSA HB2 ⊢
    have HQW := hide hq
    generalize hq2 : w1.heap.size = q2 at *
    have HQ2W := hide hq2
    clear hq
    by_cases h2 : x1.op = 20
    · rw [if_pos h2] at hr
      have n20 : (((x1.op : Nat) : Int) == 20) = true := by rw [h2]; rfl
      have HR := hide hr
      clear hr
      have HX20 := hide h2
      clear h2
      go_wp2_with fail
      change Calls _ _ _ (put7 wb q2 x1 (.slice al x1.kids.length c)) _
      obtain ⟨W3, e3⟩ : ∃ W3, put7 wb q2 x1 (.slice al x1.kids.length c) = W3 := ⟨_, rfl⟩
      rw [e3] at HL HKEEP ⊢
      clear e3 a0 a1 a2 a3 a4 a5 a6 o0 o1 o2 o3 o4 o5 o6
      obtain ⟨xs3, hrow1⟩ := (unhide HW1).fl (unhide HX20)
      have hrow3 := hrow1.kept (unhide HKEEP) (fun j hj _ e => by have := unhide HQ2W; omega)
      have HOWN := hide (fun j (e : (Value.slice al x1.kids.length c).ownBlock = some j) => show j < q2 from by have := (hrow1.lt j e).2; have := unhide HQ2W; omega)
      have HROW1 := hide hrow1
      have hlt3 : q2 < W3.heap.size := (Array.getElem?_eq_some_iff.1 (unhide HL).var).1
      have HLT3 := hide hlt3
      cases h3 : predsP numP n x1.kids s1 with
      | out => have := unhide HR; rw [h3, PR.bind_out] at this; cases this
      | ok ks s2 => have := unhide HR; rw [h3, PR.bind_ok] at this; cases this
      | fail =>
        have HC := hide ((unhide HD) p wa.heap.size al c x1.kids xs3 s1 W3 ((unhide HQ).go (unhide HL).kq (unhide HL).pv) (by have := unhide HSA; omega) (unhide HL).kq.size hrow3 (by have := unhide HKB; omega) h3)
        clear hrow3 hrow1 hlt3
        refine (unhide HC).mono ?_
        rintro e w9 ⟨rfl, r2⟩
        have HK9 : Hid (Kq (fun j => j = p) w w9) := hide (((Kq.of (S := fun j => j = p) (unhide HB)).andThen (unhide HL).kq (fun _ _ h => h)).andThen r2 (fun j hj h => h.elim id (fun e => by have h7 := ((unhide HROW1).lt j e).1; have h8 := unhide HSA; have h9 := unhide HQW; omega)))
        clear r2 HC
        go_wp2_with fail
        exact ⟨rfl, rfl, unhide HK9⟩
    · rw [if_neg h2] at hr
      have n20 : (((x1.op : Nat) : Int) == 20) = false := beq_false_of_ne (by omega)
      have HR := hide hr
      have HX20 := hide h2
      clear h2 hr
      go_wp2_with fail
      have hs3 : (put7 wb q2 x1 (.slice al x1.kids.length c)).heap.size = wb.heap.size := by unfold put7; simp [World.setCell]
      rw [← hs3]
      change Calls _ _ #[_, .slice (some ⟨(put7 wb q2 x1 (.slice al x1.kids.length c)).heap.size, 0, none⟩) 1 1] ((put7 wb q2 x1 (.slice al x1.kids.length c)).alloc (oneB x1 (.slice al x1.kids.length c))) _
      clear hs3
      obtain ⟨W3, e3⟩ : ∃ W3, put7 wb q2 x1 (.slice al x1.kids.length c) = W3 := ⟨_, rfl⟩
      rw [e3] at HL ⊢
      clear e3 a0 a1 a2 a3 a4 a5 a6 o0 o1 o2 o3 o4 o5 o6
      have hL3 := unhide HL
      have hlt3 : q2 < W3.heap.size := (Array.getElem?_eq_some_iff.1 hL3.var).1
      have hrow4 := KRow.lit (B := wa.heap.size) (hL3.ex.mono (S' := fun j => wa.heap.size ≤ j) (fun j hj => hj.1) (fun _ _ _ h => h)) hL3.kq.size
      have hb4 : Below W3.heap.size W3 (W3.alloc (oneB x1 (.slice al x1.kids.length c))) := (Below.refl _ _).alloc (Nat.le_refl _) _
      have hL4 := hL3.go (Kq.of hb4) (hL3.pv.below hb4) (unhide HSA).2.2 (unhide HSA).1 (unhide HSA).2.1
      have hex4 := (hL3.ex.bound.kept (Kq.of (S := fun _ => False) hb4) (fun _ _ _ h => h))
      have hne3 : W3.heap.size ≠ p ∧ W3.heap.size ≠ q ∧ W3.heap.size ≠ q2 := by have := unhide HSA; have h7 := hL3.kq.size; omega
      generalize W3.alloc (oneB x1 (.slice al x1.kids.length c)) = W4 at hrow4 hb4 hL4 hex4 ⊢
      cases h3 : predsP numP n [x1] s1 with
      | out => have := unhide HR; rw [h3, PR.bind_out] at this; cases this
      | ok ks s2 => have := unhide HR; rw [h3, PR.bind_ok] at this; cases this
      | fail =>
        have HC := hide ((unhide HD) p wa.heap.size (some ⟨W3.heap.size, 0, none⟩) 1 [x1] _ s1 W4 ((unhide HQ).go hL4.kq hL4.pv) (by have := unhide HSA; omega) hL4.kq.size hrow4 (by simp; omega) h3)
        have HL4 := hide hL4
        have HG3 : Hid (wa.heap.size ≤ W3.heap.size) := hide hL3.kq.size
        generalize hg3 : W3.heap.size = g3 at HC HG3 ⊢
        clear hL3 hlt3 hrow4 hb4 hL4 hex4 hne3 hg3
        refine (unhide HC).mono ?_
        rintro e w9 ⟨rfl, r2⟩
        have HK9 : Hid (Kq (fun j => j = p) w w9) := hide (((Kq.of (S := fun j => j = p) (unhide HB)).andThen (unhide HL4).kq (fun _ _ h => h)).andThen r2 (fun j hj h => h.elim id (fun e => by have h7 : g3 = j := Option.some.inj e; have h8 := unhide HSA; have h9 := unhide HQW; have h10 := unhide HG3; omega)))
        clear r2 HC
        go_wp2_with fail
        exact ⟨rfl, rfl, unhide HK9⟩
end Go.Proofs.YtnmcambbpgoodaaGreatDoor
