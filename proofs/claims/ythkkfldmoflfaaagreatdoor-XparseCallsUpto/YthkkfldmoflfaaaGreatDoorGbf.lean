/- Several texts, laid as one. -/
import Derived.Test.YthkkfldmoflfaaaGreatDoorParFb
/- Where xparse's parser gives up: expression. -/
namespace Go.Proofs.YthkkfldmoflfaaaGreatDoor
open Go.RowKit Go.Maps
set_option maxRecDepth 100000 in
set_option maxHeartbeats 2000000 in
theorem pexpr_pass_fail (W0 : World) (p g : Nat) (s : PS) (w : World) (hQ : PQ W0 w p s)
    (hC : (g = 6 ∧ ∀ w', PQ W0 w' p s → Calls Tryz.prog 46 #[.pointer (some ⟨p, 0, none⟩)] w' (outF p w')) ∨ (g = 8 ∧ ∀ w', PQ W0 w' p s → Calls Tryz.prog 47 #[.pointer (some ⟨p, 0, none⟩)] w' (outF p w'))) :
    Calls Tryz.prog 26 #[.pointer (some ⟨p, 0, none⟩), .int .i64 (g : Nat)] w (outF p w) := by
  have HB := hide ((Below.refl w.heap.size w).alloc (Nat.le_refl _) expr0)
  have HQ := hide (hQ.alloc expr0)
  clear hQ
  rcases hC with ⟨rfl, hC⟩ | ⟨rfl, hC⟩
  · have HC := hide (hC _ (unhide HQ))
    clear hC
    go_enter Tryz.func26, Tryz.ntmps26
    go_wp2_with fail
    refine (unhide HC).mono ?_
    rintro e w9 ⟨rfl, r2⟩
    have HK9 := hide ((Kq.of (S := fun j => j = p) (unhide HB)).andThen r2 (fun _ _ h => h))
    clear r2 HC
    go_wp2_with fail
    exact ⟨rfl, rfl, unhide HK9⟩
  · have HC := hide (hC _ (unhide HQ))
    clear hC
    go_enter Tryz.func26, Tryz.ntmps26
    go_wp2_with fail
    refine (unhide HC).mono ?_
    rintro e w9 ⟨rfl, r2⟩
    have HK9 := hide ((Kq.of (S := fun j => j = p) (unhide HB)).andThen r2 (fun _ _ h => h))
    clear r2 HC
    go_wp2_with fail
    exact ⟨rfl, rfl, unhide HK9⟩
set_option maxRecDepth 100000 in
set_option maxHeartbeats 2000000 in
theorem pexpr_loop_fail (W0 : World) (n p g : Nat) (s : PS) (w : World) (hQ : PQ W0 w p s) (hG : EnvG W0) (hg6 : g ≠ 6) (hg8 : g < 8) (hE : ∀ m, m ≤ n → ExprC numP W0 m) (hEF : ∀ m, m ≤ n → ExprF W0 m) (hr : (exprP numP n (g + 1) s).bind (fun e s => opsP numP n g e s) = .fail) :
    Calls Tryz.prog 26 #[.pointer (some ⟨p, 0, none⟩), .int .i64 (g : Nat)] w (outF p w) := by
  have HB := hide ((Below.refl w.heap.size w).alloc (Nat.le_refl _) expr0)
  have HPL := hide hQ.pv.lt
  have HQ := hide (hQ.alloc expr0)
  have HE := hide hE
  have HEF := hide hEF
  have HG := hide hG
  have n6 : ((g : Int) == 6) = false := beq_false_of_ne (by omega)
  have n8 : ((g : Int) == 8) = false := beq_false_of_ne (by omega)
  have n9 : (g : Int) < 8 := by omega
  have n10 : (0 : Int) ≤ (g : Int) := by omega
  have n11 : IntKind.i64.wrap ((g : Int) + 1) = (g : Int) + 1 := by rw [IntKind.wrap_i64]; omega
  have HN := hide (show ((g : Int) + 1) = ((g + 1 : Nat) : Int) by omega)
  have HG8 := hide (show g + 1 ≤ 8 by omega)
  clear hQ hE hEF hG hg6 hg8
  cases h1 : exprP numP n (g + 1) s with
  | out => rw [h1, PR.bind_out] at hr; cases hr
  | fail =>
    have HC := hide ((unhide HEF) n (Nat.le_refl _) p (g + 1) ((g : Int) + 1) s _ (unhide HN) (unhide HG8) (unhide HQ) h1)
    clear hr h1
    go_enter Tryz.func26, Tryz.ntmps26
    go_wp2_with fail
    refine (unhide HC).mono ?_
    rintro e w9 ⟨rfl, r2⟩
    have HK9 := hide ((Kq.of (S := fun j => j = p) (unhide HB)).andThen r2 (fun _ _ h => h))
    clear r2 HC
    go_wp2_with fail
    exact ⟨rfl, rfl, unhide HK9⟩
  | ok x s1 =>
    have hc := (unhide HE) n (Nat.le_refl _) p (g + 1) ((g : Int) + 1) s _ x s1 (unhide HN) (unhide HG8) (unhide HQ) h1
    rw [h1, PR.bind_ok] at hr
    have HC := hide hc
    have HR := hide hr
    clear hc hr h1
    go_enter Tryz.func26, Tryz.ntmps26
    go_wp2_with fail
    refine (unhide HC).mono ?_
    rintro e w1 ⟨al, c, rfl, r2⟩
    have hq1 := blockK r2.kq (palloc_new w expr0) (by have := unhide HPL; omega)
    have hsa : (w.alloc expr0).heap.size = w.heap.size + 1 := by simp
    have hsz := r2.kq.size
    have HW1 := hide r2
    -- the variable
    have hq2 : (w1.alloc expr0).heap[w1.heap.size]? = some expr0 := palloc_new w1 expr0
    have hlp : LoopX (w.alloc expr0) (put7 (w1.alloc expr0) w1.heap.size x (.slice al x.kids.length c)) p w.heap.size w1.heap.size x (.slice al x.kids.length c) s1 := by
      have hk := (Kq.of (S := fun j => j = w1.heap.size) ((Below.refl w1.heap.size w1).alloc (Nat.le_refl _) expr0)).andThen (put7_kq (w1.alloc expr0) w1.heap.size x (.slice al x.kids.length c)) (fun _ _ h => h)
      refine ⟨put7_var hq2 _ _, blockK hk hq1 (by omega), ?_, r2.fl.kept hk (fun j hj _ e => by omega), r2.pv.kept hk (fun j e => by have := unhide HPL; omega), r2.kq.andThen hk (fun j hj e => by omega)⟩
      exact (r2.ex.bound.mono (S' := fun j => (w.alloc expr0).heap.size ≤ j ∧ j ≠ w1.heap.size) (fun j hj => ⟨hj.1, by omega⟩) (fun _ _ _ h => h)).kept hk (fun j hj _ e => hj.2 e)
    have HL := hide hlp
    obtain ⟨a0, a1, a2, a3, a4, a5, a6⟩ := var_cells hq2
    obtain ⟨o0, o1, o2, o3, o4, o5, o6⟩ := var_opens hq2
    have HSA := hide (show w.heap.size < (w.alloc expr0).heap.size ∧ (w.alloc expr0).heap.size ≤ w1.heap.size ∧ p < w.heap.size from ⟨by omega, by omega, unhide HPL⟩)
    clear r2 hq1 hq2 hlp hsa hsz HC
    generalize hwa : w.alloc expr0 = wa at *
    clear hwa
    generalize hw1 : w1.alloc expr0 = wb at *
    generalize hq : w.heap.size = q at HL HSA HB ⊢
    have HB2 : Hid (Below q w wa ∧ w.heap.size = q) := hide ⟨unhide HB, hq⟩
    clear hq
    generalize hq2 : w1.heap.size = q2 at *
    go_wp2_with fail
    obtain ⟨W3, e3⟩ : ∃ W3, put7 wb q2 x (.slice al x.kids.length c) = W3 := ⟨_, rfl⟩
    have e4 := e3
    unfold put7 at e4
    rw [e4]
    rw [e3] at HL
    clear e3 e4 a0 a1 a2 a3 a4 a5 a6 o0 o1 o2 o3 o4 o5 o6 hw1
    go_loopg [6] n (fun gk u6 wr => gk ≤ n ∧ ∃ (x : Ex) (al : Option Addr) (c : Nat) (s : PS), Hid (opsP numP gk g x s = .fail) ∧ Hid (LoopX wa wr p q q2 x (.slice al x.kids.length c) s))
    case atStart => exact ⟨Nat.le_refl _, x, al, c, s1, HR, HL⟩
    case round =>
      obtain ⟨hgn, x, al, c, s1, HR1, HL1⟩ := hrel
      clear HL HR HW1
      have HGN := hide hgn
      clear hgn
      cases gk with
      | zero =>
        have := unhide HR1
        rw [opsP] at this
        cases this
      | succ m =>
        obtain ⟨s3, s4, s5⟩ := unhide HSA
        have hpq : PQ W0 wr p s1 := (unhide HQ).go (unhide HL1).kq (unhide HL1).pv
        have hop := poperOf_any p g s1 wr hpq.pv ((unhide HG).below hpq.bel)
        have HPQ := hide hpq
        have HPG := hide (fun w' (hk : Kq (fun j => j = p) wr w') (hv : PV w' p (popIf (operOf g s1).isSome s1)) => (unhide HL1).go hk hv s5 s3 s4)
        have hr1 := unhide HR1
        rw [opsP] at hr1
        clear hpq s3 s4 s5
        cases hop1 : operOf g s1 with
        | none =>
          rw [hop1] at hop hr1
          cases hr1
        | some k =>
          rw [hop1] at hop hr1
          rw [hop1] at HPG
          simp only [noV, Int.zero_add] at hop
          have hk15 := oper_low hop1
          have HOP := hide hop
          clear hop hop1 HR1
          go_wp2_with fail
          refine (unhide HOP).mono ?_
          rintro e w2 ⟨rfl, r1, r2⟩
          have hL2 := unhide HPG w2 r2 r1
          have HHR := hide hr1
          clear r1 r2 HPG HOP hr1
          have HL2 := hide hL2
          have HQ2 := hide ((unhide HQ).go hL2.kq hL2.pv)
          have hlt2 : q2 < w2.heap.size := (Array.getElem?_eq_some_iff.1 hL2.var).1
          obtain ⟨a0, a1, a2, a3, a4, a5, a6⟩ := var_cells hL2.var
          have HK15 := hide hk15
          have HLT2 := hide hlt2
          clear hL2 hk15 hlt2
          cases h2 : exprP numP m (g + 1) s1.pop with
          | out => have := unhide HHR; rw [h2, PR.bind_out] at this; cases this
          | fail =>
            have HC2 := hide (fun w' (hb : Below w2.heap.size w2 w') => ((unhide HEF) m (by have := unhide HGN; omega) p (g + 1) ((g : Int) + 1) s1.pop w' (unhide HN) (unhide HG8) ((unhide HQ2).below hb) h2).mono (R' := fun e w3 => (outX p w' noX s1 e w3 ∧ False) ∨ outF p w' e w3) (fun _ _ h => .inr h))
            have HKW : Hid (Kq (fun j => j = p) w w2) := hide ((Kq.of (S := fun j => j = p) (show Below w.heap.size w wa from by have h := (unhide HB2).1; rw [← (unhide HB2).2] at h; exact h)).andThen (unhide HL2).kq (fun _ _ h => h))
            clear HHR h2
            go_wp2_with fail
            go_region_law (first
              | (go_simp; go_at_call 26; refine (unhide HC2 _ (by repeat (first | exact Below.refl _ _ | refine Below.drew ?_))).mono ?_; rintro e w3 (⟨⟨al3, c3, rfl, r2⟩, hF⟩ | ⟨rfl, r2⟩); rotate_left; exact ⟨rfl, rfl, ((unhide HKW).drew).andThen r2 (fun _ _ h => h)⟩; (have hv3 := blockK r2.kq (unhide HL2).var (by have := unhide HSA; omega)); (obtain ⟨d0, d1, d2, d3, d4, d5, d6⟩ := var_cells hv3); (obtain ⟨o0, o1, o2, o3, o4, o5, o6⟩ := var_opens hv3); (have hlt3 : q2 < w3.heap.size := (Array.getElem?_eq_some_iff.1 hv3).1); (have HF := hide hF); clear r2 hv3 hF))
            all_goals exact (unhide HF).elim
          | ok x2 s2 =>
            have HC2 := hide (fun w' (hb : Below w2.heap.size w2 w') => (unhide HE) m (by have := unhide HGN; omega) p (g + 1) ((g : Int) + 1) s1.pop w' x2 s2 (unhide HN) (unhide HG8) ((unhide HQ2).below hb) h2)
            have HHR2 := hide (show opsP numP m g (.mk k [] 0 0 0 [x, x2]) s2 = .fail from by have := unhide HHR; rw [h2, PR.bind_ok] at this; exact this)
            clear HHR h2
            go_wp2_with fail
            go_region_law (first
              | (go_simp; go_at_call 26; refine (unhide HC2 _ (by repeat (first | exact Below.refl _ _ | refine Below.drew ?_))).mono ?_; rintro e w3 ⟨al3, c3, rfl, r2⟩; (have HDB := hide ((Below.refl w2.heap.size w2).drew)); (have hv3 := blockK r2.kq (unhide HL2).var (by have := unhide HSA; omega)); (obtain ⟨d0, d1, d2, d3, d4, d5, d6⟩ := var_cells hv3); (obtain ⟨o0, o1, o2, o3, o4, o5, o6⟩ := var_opens hv3); (have hlt3 : q2 < w3.heap.size := (Array.getElem?_eq_some_iff.1 hv3).1); (have HV3 := hide hv3); (have HK3 := hide r2); clear r2 hv3))
            all_goals
              have hL5 := (unhide HL2).op (unhide HDB) (unhide HK3) (unhide HSA) (unhide HK15)
              have HL5 := hide hL5
              clear hL5
              go_wp2_with fail
              go_roundg m
              case measure => omega
              case rel => exact ⟨by have := unhide HGN; omega, .mk k [] 0 0 0 [x, x2], _, _, s2, HHR2, HL5⟩
end Go.Proofs.YthkkfldmoflfaaaGreatDoor
/- Where xparse's parser gives up: inBrackets, number, primary, filtered. -/
namespace Go.Proofs.YthkkfldmoflfaaaGreatDoor
open Go.RowKit Go.Maps
set_option maxRecDepth 100000 in
set_option maxHeartbeats 2000000 in
theorem pbr_fail (W0 : World) (n : Nat) (hE : ExprC numP W0 n) (hEF : ExprF W0 n) : BrF W0 (n + 1) := by
  intro p s w hQ hs hr
  have HB := hide ((Below.refl w.heap.size w).alloc (Nat.le_refl _) expr0)
  have HPL := hide hQ.pv.lt
  have HQ := hide (hQ.alloc expr0)
  have HR0 := hide (palloc_new w expr0)
  have HE := hide hE
  have HEF := hide hEF
  rw [brP] at hr
  clear hQ hE hEF
  cases h1 : exprP numP n 0 ⟨s.left, s.opn + 1, max s.dp (s.opn + 1)⟩ with
  | out => rw [h1, PR.bind_out] at hr; cases hr
  | fail =>
    obtain ⟨v, hb, hpv⟩ := (unhide HQ).pv.inn hs
    have c1 : (w.alloc expr0).cell? ⟨p, 1, none⟩ = some (.int .i64 (s.opn : Nat)) := pcell hb 1
    have c2 : (w.alloc expr0).cell? ⟨p, 2, none⟩ = some (.int .i64 (s.dp : Nat)) := pcell hb 2
    have o1 := popen hb 1
    have o2 := popen hb 2
    have n1 : (s.opn : Int) ≤ 100000 := by omega
    have n2 : (0 : Int) ≤ (s.opn : Int) := by omega
    generalize hwa : w.alloc expr0 = wa at *
    go_enter Tryz.func130, Tryz.ntmps130
    go_wp2_with fail
    go_region
    clear hwa
    have hkc : Kq (fun j => j = p) wa (((wa.setCell ⟨p, 1, none⟩ (.int .i64 ((s.opn : Int) + 1))).setCell ⟨p, 2, none⟩ (.int .i64 (max (s.dp : Int) ((s.opn : Int) + 1)))).drew) := ((Kq.set wa p 1 _).andThen (Kq.set _ p 2 _) (fun _ _ h => h)).drew
    have hpc := hpv.below ((Below.refl _ _).drew)
    generalize ((wa.setCell ⟨p, 1, none⟩ (.int .i64 ((s.opn : Int) + 1))).setCell ⟨p, 2, none⟩ (.int .i64 (max (s.dp : Int) ((s.opn : Int) + 1)))).drew = wc at hkc hpc ⊢
    have HC := hide ((unhide HEF) p 0 0 _ wc rfl (by decide) ((unhide HQ).go hkc hpc) h1)
    have HK := hide hkc
    clear hkc hpc hpv c1 c2 o1 o2 hb n1 n2
    go_wp2_with fail
    refine (unhide HC).mono ?_
    rintro e w9 ⟨rfl, r2⟩
    have HK9 := hide (((Kq.of (S := fun j => j = p) (unhide HB)).andThen (unhide HK) (fun _ _ h => h)).andThen r2 (fun _ _ h => h))
    clear r2 HC
    go_wp2_with fail
    exact ⟨rfl, rfl, unhide HK9⟩
  | ok x s1 =>
    rw [h1, PR.bind_ok] at hr
    cases h2 : headIs 9 [41] s1 with
    | true => rw [h2, if_pos rfl] at hr; cases hr
    | false =>
      clear hr
      obtain ⟨v, hb, hpv⟩ := (unhide HQ).pv.inn hs
      have c1 : (w.alloc expr0).cell? ⟨p, 1, none⟩ = some (.int .i64 (s.opn : Nat)) := pcell hb 1
      have c2 : (w.alloc expr0).cell? ⟨p, 2, none⟩ = some (.int .i64 (s.dp : Nat)) := pcell hb 2
      have o1 := popen hb 1
      have o2 := popen hb 2
      have n1 : (s.opn : Int) ≤ 100000 := by omega
      have n2 : (0 : Int) ≤ (s.opn : Int) := by omega
      generalize hwa : w.alloc expr0 = wa at *
      go_enter Tryz.func130, Tryz.ntmps130
      go_wp2_with fail
      go_region
      clear hwa
      have hkc : Kq (fun j => j = p) wa (((wa.setCell ⟨p, 1, none⟩ (.int .i64 ((s.opn : Int) + 1))).setCell ⟨p, 2, none⟩ (.int .i64 (max (s.dp : Int) ((s.opn : Int) + 1)))).drew) := ((Kq.set wa p 1 _).andThen (Kq.set _ p 2 _) (fun _ _ h => h)).drew
      have hpc := hpv.below ((Below.refl _ _).drew)
      generalize ((wa.setCell ⟨p, 1, none⟩ (.int .i64 ((s.opn : Int) + 1))).setCell ⟨p, 2, none⟩ (.int .i64 (max (s.dp : Int) ((s.opn : Int) + 1)))).drew = wc at hkc hpc ⊢
      have HC := hide ((unhide HE) p 0 0 _ wc x s1 rfl (by decide) ((unhide HQ).go hkc hpc) h1)
      have HK := hide hkc
      have HPS := hide ((pres_all numP n).1 0 _ x s1 h1).1
      clear hkc hpc hpv c1 c2 o1 o2 hb n1 n2
      go_wp2_with fail
      refine (unhide HC).mono ?_
      rintro e w1 ⟨al, c, rfl, r2⟩
      have hk1 := (unhide HK).andThen r2.kq (fun _ _ h => h)
      have hq1 := blockK hk1 (unhide HR0) (by have := unhide HPL; omega)
      have hq2 : (w1.alloc expr0).heap[w1.heap.size]? = some expr0 := palloc_new w1 expr0
      have hsz := hk1.size
      have hsc := (unhide HK).size
      have hsa : w.heap.size < wa.heap.size := (Array.getElem?_eq_some_iff.1 (unhide HR0)).1
      have hlp : LoopX wa (put7 (w1.alloc expr0) w1.heap.size x (.slice al x.kids.length c)) p w.heap.size w1.heap.size x (.slice al x.kids.length c) s1 := by
        have hk := (Kq.of (S := fun j => j = w1.heap.size) ((Below.refl w1.heap.size w1).alloc (Nat.le_refl _) expr0)).andThen (put7_kq (w1.alloc expr0) w1.heap.size x (.slice al x.kids.length c)) (fun _ _ h => h)
        refine ⟨put7_var hq2 _ _, blockK hk hq1 (by omega), ?_, fun e => ?_, r2.pv.kept hk (fun j e => by have := unhide HPL; omega), hk1.andThen hk (fun j hj e => by omega)⟩
        · exact (r2.ex.bound.mono (S' := fun j => wa.heap.size ≤ j ∧ j ≠ w1.heap.size) (fun j hj => ⟨by omega, by omega⟩) (fun _ _ _ h => h)).kept hk (fun j hj _ e => hj.2 e)
        · obtain ⟨xs, h2⟩ := r2.fl e
          exact ⟨xs, (h2.kept hk (fun j hj _ e => by omega)).base hsc⟩
      have HL := hide hlp
      obtain ⟨a0, a1, a2, a3, a4, a5, a6⟩ := var_cells hq2
      obtain ⟨o0, o1, o2, o3, o4, o5, o6⟩ := var_opens hq2
      have HSA := hide (show w.heap.size < wa.heap.size ∧ wa.heap.size ≤ w1.heap.size ∧ p < w.heap.size from ⟨by omega, by omega, unhide HPL⟩)
      clear r2 hq1 hq2 hlp hsa hsz HC hk1 hsc
      generalize hw1 : w1.alloc expr0 = wb at *
      have HB2 := hide (And.intro (unhide HB) (Eq.refl w.heap.size))
      generalize hq : w.heap.size = q at HL HSA HB2 ⊢
      generalize hq2 : w1.heap.size = q2 at *
      have HQW := hide hq
      clear hq
      go_wp2_with fail
      change Calls _ _ _ (put7 wb q2 x (.slice al x.kids.length c)) _
      obtain ⟨W3, e3⟩ : ∃ W3, put7 wb q2 x (.slice al x.kids.length c) = W3 := ⟨_, rfl⟩
      rw [e3] at HL ⊢
      clear e3 a0 a1 a2 a3 a4 a5 a6 o0 o1 o2 o3 o4 o5 o6
      refine (pneedNo_at (unhide HL).pv (t := [41]) (okL_p rfl) rfl h2).mono ?_
      rintro e w9 ⟨rfl, r2⟩
      have HK9 := hide (((Kq.of (S := fun j => j = p) (show Below w.heap.size w wa from by have h := (unhide HB2).1; rw [← unhide HQW] at h; exact h)).andThen (unhide HL).kq (fun _ _ h => h)).andThen r2 (fun _ _ h => h))
      clear r2
      go_wp2_with fail
      exact ⟨rfl, rfl, unhide HK9⟩
set_option maxRecDepth 100000 in
set_option maxHeartbeats 2000000 in
theorem pnumber_no (t : List Nat) (w : World) (hs : (T t).size ≤ 512) (hE : EnvG w) (hv : numP t = none) :
    Calls Tryz.prog 131 #[.string (T t)] w fun e w' => e = gaveUp ∧ Below w.heap.size w w' := by
  obtain ⟨w0, hw0⟩ : ∃ w0, w.alloc expr0 = w0 := ⟨_, rfl⟩
  have hp := fun w' (hb : Below w.heap.size w w') => parse_all (T t) w' ((hE.below hb).lex.env.len) ((hE.below hb).lex.env.tabs) (by omega)
  rw [T_data] at hp
  unfold numP at hv
  have hk : saidK (trimB (tx t)) ≠ 0 := by
    intro h
    rw [if_pos h] at hv
    cases hv
  obtain ⟨kk, ek⟩ : ∃ kk, saidK (trimB (tx t)) = kk := ⟨_, rfl⟩
  obtain ⟨vv, ev⟩ : ∃ vv, saidN (trimB (tx t)) = vv := ⟨_, rfl⟩
  rw [ek] at hk
  simp only [ek, ev] at hp
  have nk : (kk == 0) = false := by simpa using hk
  have nk2 : (kk != 0) = true := by simpa using hk
  clear hk ek ev
  have HP := hide hp
  clear hp hv hs hE
  go_enter Tryz.func131, Tryz.ntmps131
  go_wp2_with fail
  have hb0 : Below w.heap.size w w0 := by rw [← hw0]; exact (Below.refl _ _).alloc (Nat.le_refl _) _
  have hq0 : w0.heap[w.heap.size]? = some expr0 := by rw [← hw0]; exact palloc_new w expr0
  clear hw0
  refine (unhide HP _ hb0).mono ?_
  rintro e w1 ⟨rfl, hb⟩
  have hq1 := blockK (Kq.of (S := fun _ => False) hb) hq0 (fun h => h)
  have hb1 := Below.then hb0 hb
  have hb2 : Below w1.heap.size w1 (w1.alloc (.cells #[.int .i64 0, .int .i64 0] 27)) := (Below.refl _ _).alloc (Nat.le_refl _) _
  have hn2 := palloc_new w1 (.cells #[.int .i64 0, .int .i64 0] 27)
  have hq2 := blockK (Kq.of (S := fun _ => False) hb2) hq1 (fun h => h)
  obtain ⟨W2, e2⟩ : ∃ W2, w1.alloc (.cells #[.int .i64 0, .int .i64 0] 27) = W2 := ⟨_, rfl⟩
  rw [e2] at hb2 hn2 hq2
  have hlq : w.heap.size < w1.heap.size := (Array.getElem?_eq_some_iff.1 hq1).1
  generalize hg : w1.heap.size = g at hn2 hlq
  have m0 : W2.cell? ⟨g, 0, none⟩ = some (.int .i64 0) := pcell hn2 0
  have m1 : W2.cell? ⟨g, 1, none⟩ = some (.int .i64 0) := pcell hn2 1
  have p0 := popen hn2 0
  have p1 := popen hn2 1
  have hg2 : g < W2.heap.size := (Array.getElem?_eq_some_iff.1 hn2).1
  have HB2 := hide (Below.then hb1 hb2)
  generalize hq : w.heap.size = q at hq2 hlq ⊢
  have HQQ := hide hq
  obtain ⟨a0, a1, a2, a3, a4, a5, a6⟩ := var_cells hq2
  obtain ⟨o0, o1, o2, o3, o4, o5, o6⟩ := var_opens hq2
  have HQ1 := hide hq2
  have hne : q ≠ g := by omega
  have hne2 : g ≠ q := by omega
  clear hq2 hn2 hq1 hq0 hb hb0 hb1 hb2 hq HP
  go_wp2_with fail
  refine (giveUp_any _).mono ?_
  rintro e w9 ⟨rfl, rfl⟩
  have HB9 : Hid (Below w.heap.size w ((W2.setCell ⟨g, 0, none⟩ (.int .i64 kk)).setCell ⟨g, 1, none⟩ (.int .i64 vv))) := hide (Kq.fresh (S := fun j => j = g) ((Kq.of (S := fun j => j = g) (unhide HB2)).andThen ((Kq.set W2 g 0 (.int .i64 kk)).andThen (Kq.set _ g 1 (.int .i64 vv)) (fun _ _ h => h)) (fun _ _ h => h)) (fun j hj => by have := unhide HQQ; omega))
  go_wp2_with fail
  exact ⟨rfl, rfl, by have h := unhide HB9; first | exact h | (rw [unhide HQQ] at h; exact h)⟩
end Go.Proofs.YthkkfldmoflfaaaGreatDoor
/- Where xparse's parser gives up: primary, filtered. -/
namespace Go.Proofs.YthkkfldmoflfaaaGreatDoor
open Go.RowKit Go.Maps
set_option maxRecDepth 100000 in
set_option maxHeartbeats 2000000 in
theorem pprim_fail (W0 : World) (n : Nat) (hG : EnvG W0) (hB : BrF W0 n) (hA : ArgsF W0 n) : PrimF W0 (n + 1) := by
  intro p s w hQ hr
  have HG := hide hG
  have HBR := hide hB
  have HAR := hide hA
  clear hG hB hA
  have HV0 := hide (hQ.alloc expr0).pv
  have HQ := hide (hQ.alloc expr0)
  have HPL := hide hQ.pv.lt
  have HR0 := hide (palloc_new w expr0)
  have HB := hide ((Below.refl w.heap.size w).alloc (Nat.le_refl _) expr0)
  have HK0 := hide (Kq.refl (fun j => j = p) (w.alloc expr0))
  rw [primP] at hr
  clear hQ
  cases h1 : headIs 9 [40] s with
  | true =>
    rw [h1, if_pos rfl] at hr
    go_enter Tryz.func113, Tryz.ntmps113
    go_wp2_with fail
    refine (psign_at (unhide HV0) (t := [40]) (okL_p rfl) rfl h1).mono ?_
    rintro e w1 ⟨rfl, r1, r2⟩
    have HV1 : Hid (PV w1 p s.pop) := hide r1
    have HK1 := hide ((unhide HK0).andThen r2 (fun _ _ h => h))
    clear r1 r2
    have HC := hide ((unhide HBR) p s.pop w1 ((unhide HQ).go (unhide HK1) (unhide HV1)) (by have h5 := head_len h1; have h6 := (unhide HQ).pv.1; have h7 : s.pop.opn = s.opn := rfl; omega) hr)
    go_wp2_with fail
    refine (unhide HC).mono ?_
    rintro e w9 ⟨rfl, r2⟩
    have HK9 := hide (((Kq.of (S := fun j => j = p) (unhide HB)).andThen (unhide HK1) (fun _ _ h => h)).andThen r2 (fun _ _ h => h))
    clear r2 HC
    go_wp2_with fail
    exact ⟨rfl, rfl, unhide HK9⟩
  | false =>
    rw [h1, if_neg (by decide)] at hr
    cases h2 : seesK 1 s with
    | true =>
      rw [h2, if_pos rfl] at hr
      cases h6 : numP (headT s) with
      | some v => rw [h6] at hr; cases hr
      | none =>
        go_enter Tryz.func113, Tryz.ntmps113
        go_wp2_with fail
        refine (psign_at (unhide HV0) (t := [40]) (okL_p rfl) rfl h1).mono ?_
        rintro e w1 ⟨rfl, r1, r2⟩
        have HV1 : Hid (PV w1 p s) := hide r1
        have HK1 := hide ((unhide HK0).andThen r2 (fun _ _ h => h))
        clear r1 r2
        go_wp2_with fail
        have HZ := hide ((unhide HV1).headz h2)
        refine (ptakeAny_yes (k := 1) (unhide HV1) h2).mono ?_
        rintro e w2 ⟨rfl, r1, r2⟩
        have HV2 : Hid (PV w2 p s.pop) := hide r1
        have HK2 := hide ((unhide HK1).andThen r2 (fun _ _ h => h))
        clear r1 r2
        go_wp2_with fail
        refine (pnumber_no (headT s) w2 (unhide HZ) ((unhide HG).below ((unhide HQ).belK (unhide HK2))) h6).mono ?_
        rintro e w9 ⟨rfl, r2⟩
        have HK9 := hide (((Kq.of (S := fun j => j = p) (unhide HB)).andThen (unhide HK2) (fun _ _ h => h)).andThen (Kq.of (S := fun j => j = p) r2) (fun _ _ h => h))
        clear r2
        go_wp2_with fail
        exact ⟨rfl, rfl, unhide HK9⟩
    | false =>
      rw [h2, if_neg (by decide)] at hr
      cases h3 : seesK 2 s with
      | true => rw [h3, if_pos rfl] at hr; cases hr
      | false =>
        rw [h3, if_neg (by decide)] at hr
        cases h4 : seesK 7 s with
        | true => rw [h4, if_pos rfl] at hr; cases hr
        | false =>
          rw [h4, if_neg (by decide)] at hr
          cases h5 : seesK 4 s with
          | false =>
            go_enter Tryz.func113, Tryz.ntmps113
            go_wp2_with fail
            refine (psign_at (unhide HV0) (t := [40]) (okL_p rfl) rfl h1).mono ?_
            rintro e w1 ⟨rfl, r1, r2⟩
            have HV1 : Hid (PV w1 p s) := hide r1
            have HK1 := hide ((unhide HK0).andThen r2 (fun _ _ h => h))
            clear r1 r2
            go_wp2_with fail
            refine (ptakeAny_no (k := 1) (unhide HV1) h2).mono ?_
            rintro e w2 ⟨rfl, r1, r2⟩
            have HV2 : Hid (PV w2 p s) := hide r1
            have HK2 := hide ((unhide HK1).andThen r2 (fun _ _ h => h))
            clear r1 r2
            go_wp2_with fail
            refine (ptakeAny_no (k := 2) (unhide HV2) h3).mono ?_
            rintro e w3 ⟨rfl, r1, r2⟩
            have HV3 : Hid (PV w3 p s) := hide r1
            have HK3 := hide ((unhide HK2).andThen r2 (fun _ _ h => h))
            clear r1 r2
            go_wp2_with fail
            refine (ptakeAny_no (k := 7) (unhide HV3) h4).mono ?_
            rintro e w4 ⟨rfl, r1, r2⟩
            have HV4 : Hid (PV w4 p s) := hide r1
            have HK4 := hide ((unhide HK3).andThen r2 (fun _ _ h => h))
            clear r1 r2
            go_wp2_with fail
            refine (ptakeAny_no (k := 4) (unhide HV4) h5).mono ?_
            rintro e w5 ⟨rfl, r1, r2⟩
            have HV5 : Hid (PV w5 p s) := hide r1
            have HK5 := hide ((unhide HK4).andThen r2 (fun _ _ h => h))
            clear r1 r2
            go_wp2_with fail
            refine (giveUp_any _).mono ?_
            rintro e w9 ⟨rfl, rfl⟩
            go_wp2_with fail
            exact ⟨rfl, rfl, ((Kq.of (S := fun j => j = p) (unhide HB)).andThen (unhide HK5) (fun _ _ h => h))⟩
          | true =>
            rw [h5, if_pos rfl] at hr
            cases h6 : argsP numP n s.pop with
            | out => rw [h6, PR.bind_out] at hr; cases hr
            | ok ks s1 => rw [h6, PR.bind_ok] at hr; cases hr
            | fail =>
              go_enter Tryz.func113, Tryz.ntmps113
              go_wp2_with fail
              refine (psign_at (unhide HV0) (t := [40]) (okL_p rfl) rfl h1).mono ?_
              rintro e w1 ⟨rfl, r1, r2⟩
              have HV1 : Hid (PV w1 p s) := hide r1
              have HK1 := hide ((unhide HK0).andThen r2 (fun _ _ h => h))
              clear r1 r2
              go_wp2_with fail
              refine (ptakeAny_no (k := 1) (unhide HV1) h2).mono ?_
              rintro e w2 ⟨rfl, r1, r2⟩
              have HV2 : Hid (PV w2 p s) := hide r1
              have HK2 := hide ((unhide HK1).andThen r2 (fun _ _ h => h))
              clear r1 r2
              go_wp2_with fail
              refine (ptakeAny_no (k := 2) (unhide HV2) h3).mono ?_
              rintro e w3 ⟨rfl, r1, r2⟩
              have HV3 : Hid (PV w3 p s) := hide r1
              have HK3 := hide ((unhide HK2).andThen r2 (fun _ _ h => h))
              clear r1 r2
              go_wp2_with fail
              refine (ptakeAny_no (k := 7) (unhide HV3) h4).mono ?_
              rintro e w4 ⟨rfl, r1, r2⟩
              have HV4 : Hid (PV w4 p s) := hide r1
              have HK4 := hide ((unhide HK3).andThen r2 (fun _ _ h => h))
              clear r1 r2
              go_wp2_with fail
              refine (ptakeAny_yes (k := 4) (unhide HV4) h5).mono ?_
              rintro e w5 ⟨rfl, r1, r2⟩
              have HV5 : Hid (PV w5 p s.pop) := hide r1
              have HK5 := hide ((unhide HK4).andThen r2 (fun _ _ h => h))
              clear r1 r2
              have HC := hide ((unhide HAR) p s.pop w5 ((unhide HQ).go (unhide HK5) (unhide HV5)) h6)
              go_wp2_with fail
              refine (unhide HC).mono ?_
              rintro e w9 ⟨rfl, r2⟩
              have HK9 := hide (((Kq.of (S := fun j => j = p) (unhide HB)).andThen (unhide HK5) (fun _ _ h => h)).andThen r2 (fun _ _ h => h))
              clear r2 HC
              go_wp2_with fail
              exact ⟨rfl, rfl, unhide HK9⟩
set_option maxRecDepth 100000 in
set_option maxHeartbeats 2000000 in
theorem pfilt_fail (W0 : World) (n : Nat) (hn : n ≤ 90000) (hP : PrimC numP W0 n) (hPF : PrimF W0 n) (hDF : PredsF W0 n) : FiltF W0 (n + 1) := by
  intro p s w hQ hr
  have HB := hide ((Below.refl w.heap.size w).alloc (Nat.le_refl _) expr0)
  have HPL := hide hQ.pv.lt
  have HQ := hide (hQ.alloc expr0)
  have HR0 := hide (palloc_new w expr0)
  have HP := hide hP
  have HPF := hide hPF
  have HD := hide hDF
  rw [filtP] at hr
  clear hQ hP hPF hDF
  cases h1 : primP numP n s with
  | out => rw [h1, PR.bind_out] at hr; cases hr
  | fail =>
    have HC := hide ((unhide HPF) p s _ (unhide HQ) h1)
    clear hr
    go_enter Tryz.func82, Tryz.ntmps82
    go_wp2_with fail
    refine (unhide HC).mono ?_
    rintro e w9 ⟨rfl, r2⟩
    have HK9 := hide ((Kq.of (S := fun j => j = p) (unhide HB)).andThen r2 (fun _ _ h => h))
    clear r2 HC
    go_wp2_with fail
    exact ⟨rfl, rfl, unhide HK9⟩
  | ok x1 s1 =>
    rw [h1, PR.bind_ok] at hr
    have HC := hide ((unhide HP) p s _ x1 s1 (unhide HQ) h1)
    have HKB := hide (show x1.kids.length ≤ 200003 from by
      have h2 := (kids_all numP n).2.2.2.2.2.2.2.1 s x1 s1 h1
      have h3 := (unhide HQ).pv.1
      omega)
    go_enter Tryz.func82, Tryz.ntmps82
    go_wp2_with fail
    refine (unhide HC).mono ?_
    rintro e w1 ⟨al, c, rfl, r2⟩
    have hq1 := blockK r2.kq (palloc_new w expr0) (by have := unhide HPL; omega)
    have hsa : (w.alloc expr0).heap.size = w.heap.size + 1 := by simp
    have hsz := r2.kq.size
    have HW1 := hide r2
    have hq2 : (w1.alloc expr0).heap[w1.heap.size]? = some expr0 := palloc_new w1 expr0
    have hlp : LoopX (w.alloc expr0) (put7 (w1.alloc expr0) w1.heap.size x1 (.slice al x1.kids.length c)) p w.heap.size w1.heap.size x1 (.slice al x1.kids.length c) s1 := by
      have hk := (Kq.of (S := fun j => j = w1.heap.size) ((Below.refl w1.heap.size w1).alloc (Nat.le_refl _) expr0)).andThen (put7_kq (w1.alloc expr0) w1.heap.size x1 (.slice al x1.kids.length c)) (fun _ _ h => h)
      refine ⟨put7_var hq2 _ _, blockK hk hq1 (by omega), ?_, r2.fl.kept hk (fun j hj _ e => by omega), r2.pv.kept hk (fun j e => by have := unhide HPL; omega), r2.kq.andThen hk (fun j hj e => by omega)⟩
      exact (r2.ex.bound.mono (S' := fun j => (w.alloc expr0).heap.size ≤ j ∧ j ≠ w1.heap.size) (fun j hj => ⟨hj.1, by omega⟩) (fun _ _ _ h => h)).kept hk (fun j hj _ e => hj.2 e)
    have HL := hide hlp
    have HKEEP := hide ((Kq.of (S := fun j => j = w1.heap.size) ((Below.refl w1.heap.size w1).alloc (Nat.le_refl _) expr0)).andThen (put7_kq (w1.alloc expr0) w1.heap.size x1 (.slice al x1.kids.length c)) (fun _ _ h => h))
    obtain ⟨a0, a1, a2, a3, a4, a5, a6⟩ := var_cells hq2
    obtain ⟨o0, o1, o2, o3, o4, o5, o6⟩ := var_opens hq2
    have HSA := hide (show w.heap.size < (w.alloc expr0).heap.size ∧ (w.alloc expr0).heap.size ≤ w1.heap.size ∧ p < w.heap.size from ⟨by omega, by omega, unhide HPL⟩)
    have HB2 := hide (And.intro (unhide HB) (Eq.refl w.heap.size))
    clear r2 hq1 hq2 hlp hsa hsz HC
    generalize hwa : w.alloc expr0 = wa at *
    clear hwa
    generalize hw1 : w1.alloc expr0 = wb at *
    generalize hq : w.heap.size = q at HL HSA HB2 ⊢
    have HQW := hide hq
    generalize hq2 : w1.heap.size = q2 at *
    have HQ2W := hide hq2
    clear hq
    by_cases h2 : x1.op = 20
    · rw [if_pos h2] at hr
      have n20 : (((x1.op : Nat) : Int) == 20) = true := by rw [h2]; rfl
      have HR := hide hr
      clear hr
      have HX20 := hide h2
      clear h2
      go_wp2_with fail
      change Calls _ _ _ (put7 wb q2 x1 (.slice al x1.kids.length c)) _
      obtain ⟨W3, e3⟩ : ∃ W3, put7 wb q2 x1 (.slice al x1.kids.length c) = W3 := ⟨_, rfl⟩
      rw [e3] at HL HKEEP ⊢
      clear e3 a0 a1 a2 a3 a4 a5 a6 o0 o1 o2 o3 o4 o5 o6
      obtain ⟨xs3, hrow1⟩ := (unhide HW1).fl (unhide HX20)
      have hrow3 := hrow1.kept (unhide HKEEP) (fun j hj _ e => by have := unhide HQ2W; omega)
      have HOWN := hide (fun j (e : (Value.slice al x1.kids.length c).ownBlock = some j) => show j < q2 from by have := (hrow1.lt j e).2; have := unhide HQ2W; omega)
      have HROW1 := hide hrow1
      have hlt3 : q2 < W3.heap.size := (Array.getElem?_eq_some_iff.1 (unhide HL).var).1
      have HLT3 := hide hlt3
      cases h3 : predsP numP n x1.kids s1 with
      | out => have := unhide HR; rw [h3, PR.bind_out] at this; cases this
      | ok ks s2 => have := unhide HR; rw [h3, PR.bind_ok] at this; cases this
      | fail =>
        have HC := hide ((unhide HD) p wa.heap.size al c x1.kids xs3 s1 W3 ((unhide HQ).go (unhide HL).kq (unhide HL).pv) (by have := unhide HSA; omega) (unhide HL).kq.size hrow3 (by have := unhide HKB; omega) h3)
        clear hrow3 hrow1 hlt3
        refine (unhide HC).mono ?_
        rintro e w9 ⟨rfl, r2⟩
        have HK9 : Hid (Kq (fun j => j = p) w w9) := hide (((Kq.of (S := fun j => j = p) (unhide HB)).andThen (unhide HL).kq (fun _ _ h => h)).andThen r2 (fun j hj h => h.elim id (fun e => by have h7 := ((unhide HROW1).lt j e).1; have h8 := unhide HSA; have h9 := unhide HQW; omega)))
        clear r2 HC
        go_wp2_with fail
        exact ⟨rfl, rfl, unhide HK9⟩
    · rw [if_neg h2] at hr
      have n20 : (((x1.op : Nat) : Int) == 20) = false := beq_false_of_ne (by omega)
      have HR := hide hr
      have HX20 := hide h2
      clear h2 hr
      go_wp2_with fail
      have hs3 : (put7 wb q2 x1 (.slice al x1.kids.length c)).heap.size = wb.heap.size := by unfold put7; simp [World.setCell]
      rw [← hs3]
      change Calls _ _ #[_, .slice (some ⟨(put7 wb q2 x1 (.slice al x1.kids.length c)).heap.size, 0, none⟩) 1 1] ((put7 wb q2 x1 (.slice al x1.kids.length c)).alloc (oneB x1 (.slice al x1.kids.length c))) _
      clear hs3
      obtain ⟨W3, e3⟩ : ∃ W3, put7 wb q2 x1 (.slice al x1.kids.length c) = W3 := ⟨_, rfl⟩
      rw [e3] at HL ⊢
      clear e3 a0 a1 a2 a3 a4 a5 a6 o0 o1 o2 o3 o4 o5 o6
      have hL3 := unhide HL
      have hlt3 : q2 < W3.heap.size := (Array.getElem?_eq_some_iff.1 hL3.var).1
      have hrow4 := KRow.lit (B := wa.heap.size) (hL3.ex.mono (S' := fun j => wa.heap.size ≤ j) (fun j hj => hj.1) (fun _ _ _ h => h)) hL3.kq.size
      have hb4 : Below W3.heap.size W3 (W3.alloc (oneB x1 (.slice al x1.kids.length c))) := (Below.refl _ _).alloc (Nat.le_refl _) _
      have hL4 := hL3.go (Kq.of hb4) (hL3.pv.below hb4) (unhide HSA).2.2 (unhide HSA).1 (unhide HSA).2.1
      have hex4 := (hL3.ex.bound.kept (Kq.of (S := fun _ => False) hb4) (fun _ _ _ h => h))
      have hne3 : W3.heap.size ≠ p ∧ W3.heap.size ≠ q ∧ W3.heap.size ≠ q2 := by have := unhide HSA; have h7 := hL3.kq.size; omega
      generalize W3.alloc (oneB x1 (.slice al x1.kids.length c)) = W4 at hrow4 hb4 hL4 hex4 ⊢
      cases h3 : predsP numP n [x1] s1 with
      | out => have := unhide HR; rw [h3, PR.bind_out] at this; cases this
      | ok ks s2 => have := unhide HR; rw [h3, PR.bind_ok] at this; cases this
      | fail =>
        have HC := hide ((unhide HD) p wa.heap.size (some ⟨W3.heap.size, 0, none⟩) 1 [x1] _ s1 W4 ((unhide HQ).go hL4.kq hL4.pv) (by have := unhide HSA; omega) hL4.kq.size hrow4 (by simp; omega) h3)
        have HL4 := hide hL4
        have HG3 : Hid (wa.heap.size ≤ W3.heap.size) := hide hL3.kq.size
        generalize hg3 : W3.heap.size = g3 at HC HG3 ⊢
        clear hL3 hlt3 hrow4 hb4 hL4 hex4 hne3 hg3
        refine (unhide HC).mono ?_
        rintro e w9 ⟨rfl, r2⟩
        have HK9 : Hid (Kq (fun j => j = p) w w9) := hide (((Kq.of (S := fun j => j = p) (unhide HB)).andThen (unhide HL4).kq (fun _ _ h => h)).andThen r2 (fun j hj h => h.elim id (fun e => by have h7 : g3 = j := Option.some.inj e; have h8 := unhide HSA; have h9 := unhide HQW; have h10 := unhide HG3; omega)))
        clear r2 HC
        go_wp2_with fail
        exact ⟨rfl, rfl, unhide HK9⟩
end Go.Proofs.YthkkfldmoflfaaaGreatDoor
