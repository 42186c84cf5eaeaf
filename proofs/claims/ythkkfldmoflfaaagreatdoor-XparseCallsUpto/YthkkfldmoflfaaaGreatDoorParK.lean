/- A filtered expression: xparse's filtered. -/
import Derived.Test.YthkkfldmoflfaaaGreatDoorGba
namespace Go.Proofs.YthkkfldmoflfaaaGreatDoor
open Go.RowKit Go.Maps
/-- A row that is a literal of one Kid. -/
theorem KRow.lit {W3 : World} {B : Nat} {x : Ex} {al : Option Addr} {c : Nat} (h : exV W3 (fun j => B ≤ j) x (.slice al x.kids.length c)) (hB : B ≤ W3.heap.size) : KRow (W3.alloc (oneB x (.slice al x.kids.length c))) B (.slice (some ⟨W3.heap.size, 0, none⟩) 1 1) [x] (exCells x (.slice al x.kids.length c)) := by
  refine ⟨⟨rfl, .inr ⟨W3.heap.size, 1, _, rfl, hB, palloc_new _ _, Nat.le_refl _, by unfold maxLen; omega, rfl, rfl⟩⟩, kidsIn.single (exIn.mono (fun j hj => ⟨⟨hj.1, fun e => ?_⟩, ?_⟩) (fun j o hj ho => blockK (Kq.of (S := fun _ => False) ((Below.refl _ _).alloc (Nat.le_refl _) _)) ho (fun h => h)) _ _ (exIn.bound _ _ h.inn))⟩
  · have := Option.some.inj e
    have h2 := hj.2
    simp only at this
    omega
  · have h2 := hj.2
    simp
    omega
/-- A row that was added to, while a variable lay in block q2, which is then written. -/
theorem KOk.over {w1 W3 w4 : World} {B p q2 : Nat} {v v4 u : Value} {ks0 ks : List Ex} {xs0 : List Value} {s : PS} (hBs : B ≤ W3.heap.size) (h1 : KRow w1 B v ks0 xs0) (hk : Kq (fun j => j = q2) w1 W3) (hq2 : w1.heap.size ≤ q2) (hq3 : q2 < W3.heap.size) (h : KOk W3 w4 B p v ks0 xs0 v4 ks s) (hp : p < B) (i : Nat) : ∃ xs, KRow (w4.setCell ⟨q2, i, none⟩ u) B v4 ks xs := by
  obtain ⟨ks1, xs1, e, hr, hn⟩ := h.row
  have k5 := Kq.set w4 q2 i u
  have hlt := h1.lt
  have hs := hk.size
  have hs4 := h.kq.size
  have h4 : v4.ownBlock ≠ some q2 := fun e2 => by
    rcases h.at0 q2 e2 with e3 | e3
    · have := (hlt q2 e3).2; omega
    · omega
  refine ⟨xs0 ++ xs1, ownsK hr.1 k5 (fun k hb e2 => h4 (by rw [← e2]; exact hb)), ?_⟩
  rw [e]
  refine kidsIn.app (kidsIn.mono (fun j hj => ⟨⟨hj.1.1, fun e2 => ?_⟩, ?_⟩) (fun j o hj ho => blockK k5 (blockK h.kq (blockK hk ho (by omega)) (fun e2 => e2.elim (fun e2 => by omega) (fun e2 => hj.1.2 e2))) (by omega)) _ _ h1.2) (kidsIn.mono (fun j hj => ⟨⟨?_, hj.1.2⟩, Nat.lt_of_lt_of_le hj.2 k5.size⟩) (fun j o hj ho => blockK k5 ho (by omega)) _ _ hn)
  · rcases h.at0 j e2 with e3 | e3
    · exact hj.1.2 e3
    · omega
  · have := k5.size; omega
  · exact Nat.le_trans hBs hj.1.1
set_option maxRecDepth 100000 in
set_option maxHeartbeats 4000000 in
theorem pfilt_step (W0 : World) (n : Nat) (hn : n ≤ 90000) (hP : PrimC numP W0 n) (hD : PredsC numP W0 n) : FiltC numP W0 (n + 1) := by
  intro p s w x s' hQ hr
  have HB := hide ((Below.refl w.heap.size w).alloc (Nat.le_refl _) expr0)
  have HPL := hide hQ.pv.lt
  have HQ := hide (hQ.alloc expr0)
  have HR0 := hide (palloc_new w expr0)
  have HP := hide hP
  have HD := hide hD
  rw [filtP] at hr
  clear hQ hP hD
  cases h1 : primP numP n s with
  | out => rw [h1, PR.bind_out] at hr; cases hr
  | fail => rw [h1, PR.bind_fail] at hr; cases hr
  | ok x1 s1 =>
    rw [h1, PR.bind_ok] at hr
    have HC := hide ((unhide HP) p s _ x1 s1 (unhide HQ) h1)
    have HKB := hide (show x1.kids.length ≤ 200003 from by
      have h2 := (kids_all numP n).2.2.2.2.2.2.2.1 s x1 s1 h1
      have h3 := (unhide HQ).pv.1
      omega)
    go_enter Tryz.func82, Tryz.ntmps82
    go_wp2_with fail
    refine (unhide HC).mono ?_
    rintro e w1 ⟨al, c, rfl, r2⟩
    have hq1 := blockK r2.kq (palloc_new w expr0) (by have := unhide HPL; omega)
    have hsa : (w.alloc expr0).heap.size = w.heap.size + 1 := by simp
    have hsz := r2.kq.size
    have HW1 := hide r2
    have hq2 : (w1.alloc expr0).heap[w1.heap.size]? = some expr0 := palloc_new w1 expr0
    have hlp : LoopX (w.alloc expr0) (put7 (w1.alloc expr0) w1.heap.size x1 (.slice al x1.kids.length c)) p w.heap.size w1.heap.size x1 (.slice al x1.kids.length c) s1 := by
      have hk := (Kq.of (S := fun j => j = w1.heap.size) ((Below.refl w1.heap.size w1).alloc (Nat.le_refl _) expr0)).andThen (put7_kq (w1.alloc expr0) w1.heap.size x1 (.slice al x1.kids.length c)) (fun _ _ h => h)
      refine ⟨put7_var hq2 _ _, blockK hk hq1 (by omega), ?_, r2.fl.kept hk (fun j hj _ e => by omega), r2.pv.kept hk (fun j e => by have := unhide HPL; omega), r2.kq.andThen hk (fun j hj e => by omega)⟩
      exact (r2.ex.bound.mono (S' := fun j => (w.alloc expr0).heap.size ≤ j ∧ j ≠ w1.heap.size) (fun j hj => ⟨hj.1, by omega⟩) (fun _ _ _ h => h)).kept hk (fun j hj _ e => hj.2 e)
    have HL := hide hlp
    have HKEEP := hide ((Kq.of (S := fun j => j = w1.heap.size) ((Below.refl w1.heap.size w1).alloc (Nat.le_refl _) expr0)).andThen (put7_kq (w1.alloc expr0) w1.heap.size x1 (.slice al x1.kids.length c)) (fun _ _ h => h))
    obtain ⟨a0, a1, a2, a3, a4, a5, a6⟩ := var_cells hq2
    obtain ⟨o0, o1, o2, o3, o4, o5, o6⟩ := var_opens hq2
    have HSA := hide (show w.heap.size < (w.alloc expr0).heap.size ∧ (w.alloc expr0).heap.size ≤ w1.heap.size ∧ p < w.heap.size from ⟨by omega, by omega, unhide HPL⟩)
    have HB2 := hide (And.intro (unhide HB) (Eq.refl w.heap.size))
    clear r2 hq1 hq2 hlp hsa hsz HC
    generalize hwa : w.alloc expr0 = wa at *
    clear hwa
    generalize hw1 : w1.alloc expr0 = wb at *
    generalize hq : w.heap.size = q at HL HSA HB2 ⊢
    have HQW := hide hq
    generalize hq2 : w1.heap.size = q2 at *
    have HQ2W := hide hq2
    clear hq
    by_cases h2 : x1.op = 20
    · rw [if_pos h2] at hr
      have n20 : (((x1.op : Nat) : Int) == 20) = true := by rw [h2]; rfl
      have HR := hide hr
      clear hr
      have HX20 := hide h2
      clear h2
      go_wp2_with fail
      change Calls _ _ _ (put7 wb q2 x1 (.slice al x1.kids.length c)) _
      obtain ⟨W3, e3⟩ : ∃ W3, put7 wb q2 x1 (.slice al x1.kids.length c) = W3 := ⟨_, rfl⟩
      rw [e3] at HL HKEEP ⊢
      clear e3 a0 a1 a2 a3 a4 a5 a6 o0 o1 o2 o3 o4 o5 o6
      obtain ⟨xs3, hrow1⟩ := (unhide HW1).fl (unhide HX20)
      have hrow3 := hrow1.kept (unhide HKEEP) (fun j hj _ e => by have := unhide HQ2W; omega)
      have HOWN := hide (fun j (e : (Value.slice al x1.kids.length c).ownBlock = some j) => show j < q2 from by have := (hrow1.lt j e).2; have := unhide HQ2W; omega)
      have HROW1 := hide hrow1
      have hlt3 : q2 < W3.heap.size := (Array.getElem?_eq_some_iff.1 (unhide HL).var).1
      have HLT3 := hide hlt3
      cases h3 : predsP numP n x1.kids s1 with
      | out => have := unhide HR; rw [h3, PR.bind_out] at this; cases this
      | fail => have := unhide HR; rw [h3, PR.bind_fail] at this; cases this
      | ok ks s2 =>
        have hr2 := unhide HR
        rw [h3, PR.bind_ok] at hr2
        obtain ⟨ex, es⟩ : x = .mk x1.op x1.text x1.num x1.axis x1.test ks ∧ s' = s2 := by have h20 := unhide HX20; cases hr2; exact ⟨by rw [h20], rfl⟩
        subst ex es
        have HC := hide ((unhide HD) p wa.heap.size al c x1.kids xs3 s1 W3 ks s' ((unhide HQ).go (unhide HL).kq (unhide HL).pv) (by have := unhide HSA; omega) (unhide HL).kq.size hrow3 (by have := unhide HKB; omega) h3)
        clear hr2 hrow3 hrow1 hlt3
        refine (unhide HC).mono ?_
        rintro e w4 ⟨al4, c4, rfl, r2⟩
        have hne4 : ∀ j, j = p ∨ (Value.slice al x1.kids.length c).ownBlock = some j → j ≠ q2 ∧ j ≠ q := fun j hj => by
          have h5 := unhide HSA
          rcases hj with e | e
          · omega
          · have h6 := unhide HOWN j e
            have h7 := ((unhide HROW1).lt j e).1
            omega
        have hv4 := blockK r2.kq (unhide HL).var (fun e => (hne4 _ e).1 rfl)
        have hres4 := blockK r2.kq (unhide HL).res (fun e => (hne4 _ e).2 rfl)
        have HO4 := hide r2
        have HV4 := hide hv4
        obtain ⟨d0, d1, d2, d3, d4, d5, d6⟩ := var_cells hv4
        obtain ⟨f0, f1, f2, f3, f4, f5, f6⟩ := var_opens hv4
        obtain ⟨b0, b1, b2, b3, b4, b5, b6⟩ := var_cells hres4
        obtain ⟨o0, o1, o2, o3, o4, o5, o6⟩ := var_opens hres4
        have HRES4 := hide hres4
        have hqq : q ≠ q2 := by have := unhide HSA; omega
        have hqq2 : q2 ≠ q := by have := unhide HSA; omega
        clear r2 hv4 hres4 hne4 HC
        go_wp2_with fail
        have hk5 := Kq.set w4 q2 6 (.slice al4 ks.length c4)
        have hq5 := blockK hk5 (unhide HRES4) hqq
        have hpq := unhide HSA
        have hqw := unhide HQW
        have hq2w := unhide HQ2W
        have hkr : ∃ xs, KRow (w4.setCell ⟨q2, 6, none⟩ (.slice al4 ks.length c4)) wa.heap.size (.slice al4 ks.length c4) ks xs := KOk.over (unhide HL).kq.size (unhide HROW1) (unhide HKEEP) (by omega) (unhide HLT3) (unhide HO4) (by omega) 6
        change bodyPost _ _ _ _ _ (put7 (w4.setCell ⟨q2, 6, none⟩ (.slice al4 ks.length c4)) q (.mk x1.op x1.text x1.num x1.axis x1.test ks) (.slice al4 ks.length c4))
        have hpv5 := (unhide HO4).pv.kept hk5 (fun j e => by omega)
        have hkq5 : Kq (fun j => j = p) w (w4.setCell ⟨q2, 6, none⟩ (.slice al4 ks.length c4)) := (((Kq.of (S := fun j => j = p) (unhide HB)).andThen (unhide HL).kq (fun _ _ h => h)).andThen (unhide HO4).kq (fun j hj e => e.elim id (fun e => by have := ((unhide HROW1).lt j e).1; omega))).andThen hk5 (fun j hj e => by omega)
        generalize w4.setCell ⟨q2, 6, none⟩ (.slice al4 ks.length c4) = W5 at hq5 hkr hpv5 hkq5 ⊢
        have HQ1 := hide hq5
        obtain ⟨xs5, hrow5⟩ := hkr
        have hV := put7_var (unhide HQ1) (.mk x1.op x1.text x1.num x1.axis x1.test ks) (.slice al4 ks.length c4)
        have hX : XOk w (put7 W5 q (.mk x1.op x1.text x1.num x1.axis x1.test ks) (.slice al4 ks.length c4)) p (.mk x1.op x1.text x1.num x1.axis x1.test ks) (.slice al4 ks.length c4) _ := XOk.ret (w := w) (q := q) (B := wa.heap.size) ((exV.row hrow5 (unhide HL).ex.1).mono (S' := fun j => w.heap.size ≤ j ∧ j ≠ q) (fun j hj => ⟨by omega, by omega⟩) (fun _ _ _ h => h)) (fun _ => ⟨xs5, hrow5⟩) hpv5 hkq5 (by omega) (by omega) (by omega)
        skip
        change bodyPost _ _ _ _ _ (put7 W5 q (.mk x1.op x1.text x1.num x1.axis x1.test ks) (.slice al4 ks.length c4))
        obtain ⟨W9, e9⟩ : ∃ W9, put7 W5 q (.mk x1.op x1.text x1.num x1.axis x1.test ks) (.slice al4 ks.length c4) = W9 := ⟨_, rfl⟩
        rw [e9]
        rw [e9] at hV hX
        obtain ⟨b0, b1, b2, b3, b4, b5, b6⟩ := var_cells hV
        have HX9 := hide hX
        clear hX hV e9
        refine bodyPost_ret (v := exAgg (.mk x1.op x1.text x1.num x1.axis x1.test ks) (.slice al4 ks.length c4)) (by simp [results, Tryz.results82, go_sem, b0, b1, b2, b3, b4, b5, b6]) rfl ?_
        exact ⟨_, _, rfl, unhide HX9⟩
    · rw [if_neg h2] at hr
      have n20 : (((x1.op : Nat) : Int) == 20) = false := beq_false_of_ne (by omega)
      have HR := hide hr
      have HX20 := hide h2
      clear h2 hr
      go_wp2_with fail
      have hs3 : (put7 wb q2 x1 (.slice al x1.kids.length c)).heap.size = wb.heap.size := by unfold put7; simp [World.setCell]
      rw [← hs3]
      change Calls _ _ #[_, .slice (some ⟨(put7 wb q2 x1 (.slice al x1.kids.length c)).heap.size, 0, none⟩) 1 1] ((put7 wb q2 x1 (.slice al x1.kids.length c)).alloc (oneB x1 (.slice al x1.kids.length c))) _
      clear hs3
      obtain ⟨W3, e3⟩ : ∃ W3, put7 wb q2 x1 (.slice al x1.kids.length c) = W3 := ⟨_, rfl⟩
      rw [e3] at HL ⊢
      clear e3 a0 a1 a2 a3 a4 a5 a6 o0 o1 o2 o3 o4 o5 o6
      have hL3 := unhide HL
      have hlt3 : q2 < W3.heap.size := (Array.getElem?_eq_some_iff.1 hL3.var).1
      have hrow4 := KRow.lit (B := wa.heap.size) (hL3.ex.mono (S' := fun j => wa.heap.size ≤ j) (fun j hj => hj.1) (fun _ _ _ h => h)) hL3.kq.size
      have hb4 : Below W3.heap.size W3 (W3.alloc (oneB x1 (.slice al x1.kids.length c))) := (Below.refl _ _).alloc (Nat.le_refl _) _
      have hL4 := hL3.go (Kq.of hb4) (hL3.pv.below hb4) (unhide HSA).2.2 (unhide HSA).1 (unhide HSA).2.1
      have hex4 := (hL3.ex.bound.kept (Kq.of (S := fun _ => False) hb4) (fun _ _ _ h => h))
      have hne3 : W3.heap.size ≠ p ∧ W3.heap.size ≠ q ∧ W3.heap.size ≠ q2 := by have := unhide HSA; have h7 := hL3.kq.size; omega
      generalize W3.alloc (oneB x1 (.slice al x1.kids.length c)) = W4 at hrow4 hb4 hL4 hex4 ⊢
      cases h3 : predsP numP n [x1] s1 with
      | out => have := unhide HR; rw [h3, PR.bind_out] at this; cases this
      | fail => have := unhide HR; rw [h3, PR.bind_fail] at this; cases this
      | ok ks s2 =>
        have hr2 := unhide HR
        rw [h3, PR.bind_ok] at hr2
        have HC := hide ((unhide HD) p wa.heap.size (some ⟨W3.heap.size, 0, none⟩) 1 [x1] _ s1 W4 ks s2 ((unhide HQ).go hL4.kq hL4.pv) (by have := unhide HSA; omega) hL4.kq.size hrow4 (by simp; omega) h3)
        have HR2 := hide hr2
        have HL4 := hide hL4
        have HEX4 := hide hex4
        have HNE := hide hne3
        have HG3 : Hid (wa.heap.size ≤ W3.heap.size) := hide hL3.kq.size
        generalize hg3 : W3.heap.size = g3 at HEX4 HNE HC HG3 ⊢
        clear hr2 hL3 hlt3 hrow4 hb4 hL4 hex4 hne3 hg3
        refine (unhide HC).mono ?_
        rintro e w5 ⟨al5, c5, rfl, r2⟩
        have hnn : ∀ j, j = p ∨ (Value.slice (some ⟨g3, 0, none⟩) 1 1).ownBlock = some j → j = p ∨ j = g3 := fun j hj => hj.elim .inl (fun e => .inr (Option.some.inj e).symm)
        have hk5 := r2.kq.more (fun j _ hj => hnn j hj)
        have hv5 := blockK hk5 (unhide HL4).var (by have := unhide HSA; have := unhide HNE; omega)
        have hres5 := blockK hk5 (unhide HL4).res (by have := unhide HSA; have := unhide HNE; omega)
        have HEX5 := hide ((unhide HEX4).kept hk5 (fun j hj _ e => by have := unhide HSA; omega))
        have HKQ5 := hide (((Kq.of (S := fun j => j = p) (unhide HB)).andThen (unhide HL4).kq (fun _ _ h => h)).andThen hk5 (fun j hj e => by have h8 := unhide HNE; have h9 := (unhide HL).kq.size; have h10 := unhide HQW; have h11 := unhide HSA; have h12 := unhide HG3; omega))
        have HO5 := hide r2
        obtain ⟨d0, d1, d2, d3, d4, d5, d6⟩ := var_cells hv5
        obtain ⟨b0, b1, b2, b3, b4, b5, b6⟩ := var_cells hres5
        obtain ⟨o0, o1, o2, o3, o4, o5, o6⟩ := var_opens hres5
        have HQ1 := hide hres5
        clear r2 hv5 hres5 hk5 hnn HC
        by_cases h1k : ks.length = 1
        · have hr3 := unhide HR2
          rw [if_pos h1k] at hr3
          obtain ⟨ex, es⟩ : x = x1 ∧ s' = s2 := by cases hr3; exact ⟨rfl, rfl⟩
          subst ex es
          have n1 : ((ks.length : Int) == 1) = true := by rw [h1k]; rfl
          clear hr3 HR2 h1k
          go_wp2_with fail
          have hsa := unhide HSA
          have hqw := unhide HQW
          have hV := put7_var (unhide HQ1) (x) (.slice al x.kids.length c)
          have hX : XOk w (put7 w5 q (x) (.slice al x.kids.length c)) p (x) (.slice al x.kids.length c) _ := XOk.ret (w := w) (q := q) (B := wa.heap.size) ((unhide HEX5).mono (S' := fun j => w.heap.size ≤ j ∧ j ≠ q) (fun j hj => ⟨by omega, by omega⟩) (fun _ _ _ h => h)) (fun e => absurd e (unhide HX20)) (unhide HO5).pv (unhide HKQ5) (by omega) (by omega) (by omega)
          change bodyPost _ _ _ _ _ (put7 w5 q (x) (.slice al x.kids.length c))
          obtain ⟨W9, e9⟩ : ∃ W9, put7 w5 q (x) (.slice al x.kids.length c) = W9 := ⟨_, rfl⟩
          rw [e9]
          rw [e9] at hV hX
          obtain ⟨b0, b1, b2, b3, b4, b5, b6⟩ := var_cells hV
          have HX9 := hide hX
          clear hX hV e9
          refine bodyPost_ret (v := exAgg (x) (.slice al x.kids.length c)) (by simp [results, Tryz.results82, go_sem, b0, b1, b2, b3, b4, b5, b6]) rfl ?_
          exact ⟨_, _, rfl, unhide HX9⟩
        · have hr3 := unhide HR2
          rw [if_neg h1k] at hr3
          obtain ⟨ex, es⟩ : x = .mk 20 [] 0 0 0 ks ∧ s' = s2 := by cases hr3; exact ⟨rfl, rfl⟩
          subst ex es
          have n1 : ((ks.length : Int) == 1) = false := beq_false_of_ne (by omega)
          clear hr3 HR2
          go_wp2_with fail
          have hsa := unhide HSA
          have hqw := unhide HQW
          obtain ⟨_, _, _, hrow5, _⟩ := (unhide HO5).row
          have hV := put7_var (unhide HQ1) (.mk 20 [] 0 0 0 ks) (.slice al5 ks.length c5)
          have hX : XOk w (put7 w5 q (.mk 20 [] 0 0 0 ks) (.slice al5 ks.length c5)) p (.mk 20 [] 0 0 0 ks) (.slice al5 ks.length c5) _ := XOk.ret (w := w) (q := q) (B := wa.heap.size) ((exV.row hrow5 okL_nil9).mono (S' := fun j => w.heap.size ≤ j ∧ j ≠ q) (fun j hj => ⟨by omega, by omega⟩) (fun _ _ _ h => h)) (fun _ => ⟨_, hrow5⟩) (unhide HO5).pv (unhide HKQ5) (by omega) (by omega) (by omega)
          change bodyPost _ _ _ _ _ (put7 w5 q (.mk 20 [] 0 0 0 ks) (.slice al5 ks.length c5))
          obtain ⟨W9, e9⟩ : ∃ W9, put7 w5 q (.mk 20 [] 0 0 0 ks) (.slice al5 ks.length c5) = W9 := ⟨_, rfl⟩
          rw [e9]
          rw [e9] at hV hX
          obtain ⟨b0, b1, b2, b3, b4, b5, b6⟩ := var_cells hV
          have HX9 := hide hX
          clear hX hV e9
          refine bodyPost_ret (v := exAgg (.mk 20 [] 0 0 0 ks) (.slice al5 ks.length c5)) (by simp [results, Tryz.results82, go_sem, b0, b1, b2, b3, b4, b5, b6]) rfl ?_
          exact ⟨_, _, rfl, unhide HX9⟩
end Go.Proofs.YthkkfldmoflfaaaGreatDoor
