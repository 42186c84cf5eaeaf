/- Several texts, laid as one. -/
import Derived.Test.YtnmcambbpgoodaaGreatDoorParF
/- A step, and an expression in ( ): xparse's step, inBrackets. -/
namespace Go.Proofs.YtnmcambbpgoodaaGreatDoor
open Go.RowKit Go.Maps
theorem KRow.exs {w : World} {B : Nat} {v : Value} {ks : List Ex} {xs : List Value} (h : KRow w B v ks xs) : ∃ ys, slAt w (fun j => B ≤ j) v ks.length ys ∧ kidsIn w (fun j => B ≤ j) ks ys := by
  refine ⟨xs, ⟨by
    rcases h.1.2 with ⟨rfl, h0⟩ | ⟨g, cap, cur, rfl, h2, h3, h4⟩
    · exact ⟨none, 0, by rw [show ks.length = 0 by omega], by omega⟩
    · exact ⟨_, cap, rfl, h4.1⟩, fun hn => ?_⟩, kidsIn.mono (fun j hj => hj.1.1) (fun _ _ _ h => h) ks xs h.2⟩
  have hc := @World.ownsRow.cells _ _ _ _ _ _ _ h.1
  rcases h.1.2 with ⟨rfl, h0⟩ | ⟨g, cap, cur, rfl, h2, h3, h4⟩
  · omega
  · exact ⟨g, 0, cap, rfl, h2, (Array.getElem?_eq_some_iff.1 h3).1, fun i u hu => by
      have := hc (g := g) rfl _ _ hu
      rw [Addr.add_mid] at this
      exact this⟩
theorem PQ.belK {W0 w w' : World} {p : Nat} {s : PS} (h : PQ W0 w p s) (hk : Kq (fun j => j = p) w w') : Below W0.heap.size W0 w' :=
  ⟨hk.os.trans h.bel.os, hk.tape.trans h.bel.tape, hk.output.trans h.bel.output, Nat.le_trans h.bel.size hk.size, fun k hk' => by
    rw [hk.block k (Nat.lt_of_lt_of_le hk' h.bel.size) (by have := h.lo; omega)]
    exact h.bel.block k hk'⟩
theorem exV.row {w : World} {B o a t : Nat} {n : Int} {tt : List Nat} {v : Value} {ks : List Ex} {xs : List Value} (h : KRow w B v ks xs) (ht : okL tt) : exV w (fun j => B ≤ j) (.mk o tt n a t ks) v := ⟨ht, h.exs⟩
theorem okL_nil9 : okL [] := fun c hc => by cases hc
theorem exF.ne {w : World} {B o a t : Nat} {n : Int} {tt : List Nat} {v : Value} {ks : List Ex} (h : o ≠ 20) : exF w B v (.mk o tt n a t ks) := fun e => absurd e h
theorem exV.leaf {w : World} {S : Nat → Prop} {o a t c : Nat} {al : Option Addr} {n : Int} {tt : List Nat} (ht : okL tt) : exV w S (.mk o tt n a t []) (.slice al 0 c) := ⟨ht, [], ⟨⟨_, _, rfl, Nat.zero_le _⟩, fun h => absurd h (Nat.lt_irrefl 0)⟩, by show kidsIn w S [] []; rw [kidsIn]⟩
set_option maxRecDepth 100000 in
set_option maxHeartbeats 4000000 in
theorem pstep_step (num : List Nat → Option Int) (W0 : World) (n : Nat) (hG : EnvG W0) (hP : PredsC num W0 n) (hn : n ≤ 90000) : StepC num W0 (n + 1) := by
  intro p s w x s' hQ hr
  have HB := hide ((Below.refl w.heap.size w).alloc (Nat.le_refl _) expr0)
  have HPL := hide hQ.pv.lt
  have HQ := hide (hQ.alloc expr0)
  have HR0 := hide (palloc_new w expr0)
  have HG := hide hG
  have HP := hide hP
  have HQ0 := hide hQ
  rw [stepP] at hr
  clear hQ hG hP
  cases h1 : headIs 9 [46] s with
  | true =>
    rw [h1, if_pos rfl] at hr
    cases hr
    go_enter Tryz.func66, Tryz.ntmps66
    go_wp2_with fail
    refine (psign_at (unhide HQ).pv (t := [46]) (okL_p rfl) rfl h1).mono ?_
    rintro e w1 ⟨rfl, r1, r2⟩
    have HPV1 : Hid (PV w1 p s.pop) := hide r1
    have HK1 := hide r2
    clear r1 r2
    have hq1 := blockK (unhide HK1) (unhide HR0) (by have := unhide HPL; omega)
    generalize hq : w.heap.size = q at hq1 ⊢
    have HQQ := hide hq
    have HQ1 := hide hq1
    obtain ⟨a0, a1, a2, a3, a4, a5, a6⟩ := var_cells hq1
    obtain ⟨o0, o1, o2, o3, o4, o5, o6⟩ := var_opens hq1
    clear hq1 hq
    go_wp2_with fail
    have hqq := unhide HQQ
    have hpl := unhide HPL
    have hV := put7_var (unhide HQ1) (.mk 23 [] 0 9 3 []) (.slice none 0 0)
    have hX : XOk w (put7 w1 q (.mk 23 [] 0 9 3 []) (.slice none 0 0)) p (.mk 23 [] 0 9 3 []) (.slice none 0 0) _ := XOk.ret (w := w) (q := q) (B := q + 1) (exV.leaf okL_nil9) (exF.ne (by decide)) (unhide HPV1) ((Kq.of (S := fun j => j = p) (unhide HB)).andThen (unhide HK1) (fun _ _ h => h)) (by omega) (by omega) (by omega)
    change bodyPost _ _ _ _ _ (put7 w1 q (.mk 23 [] 0 9 3 []) (.slice none 0 0))
    obtain ⟨W9, e9⟩ : ∃ W9, put7 w1 q (.mk 23 [] 0 9 3 []) (.slice none 0 0) = W9 := ⟨_, rfl⟩
    rw [e9]
    rw [e9] at hV hX
    obtain ⟨b0, b1, b2, b3, b4, b5, b6⟩ := var_cells hV
    have HX9 := hide hX
    clear hX hV e9
    refine bodyPost_ret (v := exAgg (.mk 23 [] 0 9 3 []) (.slice none 0 0)) (by simp [results, Tryz.results66, go_sem, b0, b1, b2, b3, b4, b5, b6]) rfl ?_
    exact ⟨_, _, rfl, unhide HX9⟩
  | false =>
    rw [h1, if_neg (by decide)] at hr
    cases h2 : headIs 9 [46, 46] s with
    | true =>
      rw [h2, if_pos rfl] at hr
      cases hr
      go_enter Tryz.func66, Tryz.ntmps66
      go_wp2_with fail
      refine (psign_at (unhide HQ).pv (t := [46]) (okL_p rfl) rfl h1).mono ?_
      rintro e w1 ⟨rfl, r1, r2⟩
      have HPV1 : Hid (PV w1 p s) := hide r1
      have HK1 := hide r2
      clear r1 r2
      go_wp2_with fail
      refine (psign_at (unhide HPV1) (t := [46, 46]) (okL_p rfl) rfl h2).mono ?_
      rintro e w2 ⟨rfl, r1, r2⟩
      have HPV2 : Hid (PV w2 p s.pop) := hide r1
      have HK2 := hide ((unhide HK1).andThen r2 (fun _ _ h => h))
      clear r1 r2
      have hq1 := blockK (unhide HK2) (unhide HR0) (by have := unhide HPL; omega)
      generalize hq : w.heap.size = q at hq1 ⊢
      have HQQ := hide hq
      have HQ1 := hide hq1
      obtain ⟨a0, a1, a2, a3, a4, a5, a6⟩ := var_cells hq1
      obtain ⟨o0, o1, o2, o3, o4, o5, o6⟩ := var_opens hq1
      clear hq1 hq
      go_wp2_with fail
      have hqq := unhide HQQ
      have hpl := unhide HPL
      have hV := put7_var (unhide HQ1) (.mk 23 [] 0 2 3 []) (.slice none 0 0)
      have hX : XOk w (put7 w2 q (.mk 23 [] 0 2 3 []) (.slice none 0 0)) p (.mk 23 [] 0 2 3 []) (.slice none 0 0) _ := XOk.ret (w := w) (q := q) (B := q + 1) (exV.leaf okL_nil9) (exF.ne (by decide)) (unhide HPV2) ((Kq.of (S := fun j => j = p) (unhide HB)).andThen (unhide HK2) (fun _ _ h => h)) (by omega) (by omega) (by omega)
      change bodyPost _ _ _ _ _ (put7 w2 q (.mk 23 [] 0 2 3 []) (.slice none 0 0))
      obtain ⟨W9, e9⟩ : ∃ W9, put7 w2 q (.mk 23 [] 0 2 3 []) (.slice none 0 0) = W9 := ⟨_, rfl⟩
      rw [e9]
      rw [e9] at hV hX
      obtain ⟨b0, b1, b2, b3, b4, b5, b6⟩ := var_cells hV
      have HX9 := hide hX
      clear hX hV e9
      refine bodyPost_ret (v := exAgg (.mk 23 [] 0 2 3 []) (.slice none 0 0)) (by simp [results, Tryz.results66, go_sem, b0, b1, b2, b3, b4, b5, b6]) rfl ?_
      exact ⟨_, _, rfl, unhide HX9⟩
    | false =>
      rw [h2, if_neg (by decide)] at hr
      cases h3 : axisP s with
      | none => rw [h3] at hr; cases hr
      | some ax =>
        obtain ⟨a, s1⟩ := ax
        rw [h3] at hr
        simp only at hr
        cases h4 : testP s1 with
        | none => rw [h4] at hr; cases hr
        | some te =>
          obtain ⟨t, tt, s2⟩ := te
          rw [h4] at hr
          simp only at hr
          cases h5 : predsP num n [] s2 with
          | out => rw [h5, PR.bind_out] at hr; cases hr
          | fail => rw [h5, PR.bind_fail] at hr; cases hr
          | ok ks s3 =>
            rw [h5, PR.bind_ok] at hr
            cases hr
            go_enter Tryz.func66, Tryz.ntmps66
            go_wp2_with fail
            refine (psign_at (unhide HQ).pv (t := [46]) (okL_p rfl) rfl h1).mono ?_
            rintro e w1 ⟨rfl, r1, r2⟩
            have HPV1 : Hid (PV w1 p s) := hide r1
            have HK1 := hide r2
            clear r1 r2
            go_wp2_with fail
            refine (psign_at (unhide HPV1) (t := [46, 46]) (okL_p rfl) rfl h2).mono ?_
            rintro e w2 ⟨rfl, r1, r2⟩
            have HPV2 : Hid (PV w2 p s) := hide r1
            have HK2 := hide ((unhide HK1).andThen r2 (fun _ _ h => h))
            clear r1 r2
            have hax := paxis_any p s w2 (unhide HPV2) (fun w' hk => (unhide HG).below ((unhide HQ).belK ((unhide HK2).andThen hk (fun _ _ h => h))))
            rw [h3] at hax
            have HAX := hide hax
            clear hax
            go_wp2_with fail
            refine (unhide HAX).mono ?_
            rintro e w3 ⟨rfl, r1, r2⟩
            have HPV3 := hide r1
            have HK3 := hide ((unhide HK2).andThen r2 (fun _ _ h => h))
            clear r1 r2 HAX
            have hte := ptest_any p s1 w3 (unhide HPV3) (fun w' hk => (unhide HG).below ((unhide HQ).belK ((unhide HK3).andThen hk (fun _ _ h => h))))
            rw [h4] at hte
            have HTE := hide hte
            clear hte
            go_wp2_with fail
            refine (unhide HTE).mono ?_
            rintro e w4 ⟨r0, rfl, r1, r2⟩
            have HPV4 := hide r1
            have HT0 := hide r0
            have HK4 := hide ((unhide HK3).andThen r2 (fun _ _ h => h))
            clear r0 r1 r2 HTE
            have HC := hide ((unhide HP) p w4.heap.size none 0 [] [] s2 w4 ks s' ((unhide HQ).go (unhide HK4) (unhide HPV4)) (unhide HPV4).lt (Nat.le_refl _) (KRow.nil _ _) (by simp; omega) h5)
            go_wp2_with fail
            refine (unhide HC).mono ?_
            rintro e w5 ⟨al, c, rfl, r2⟩
            have HO := hide r2
            have HK5 := hide ((unhide HK4).andThen (r2.kq.more (S' := fun j => j = p) (fun j _ hj => hj.elim id (fun e => by cases e))) (fun _ _ h => h))
            have HPV5 := hide r2.pv
            have hs4 := (unhide HK4).size
            have HS4 := hide hs4
            clear r2 HC hs4
            have hq1 := blockK (unhide HK5) (unhide HR0) (by have := unhide HPL; omega)
            generalize hq : w.heap.size = q at hq1 ⊢
            have HQQ := hide hq
            have HQ1 := hide hq1
            obtain ⟨a0, a1, a2, a3, a4, a5, a6⟩ := var_cells hq1
            obtain ⟨o0, o1, o2, o3, o4, o5, o6⟩ := var_opens hq1
            clear hq1 hq
            go_wp2_with fail
            have hqq := unhide HQQ
            have hpl := unhide HPL
            have hs4 := unhide HS4
            have hsa := alloc_lt9 w expr0
            obtain ⟨_, _, _, hrow5, _⟩ := (unhide HO).row
            have hV := put7_var (unhide HQ1) (.mk 23 tt 0 a t ks) (.slice al ks.length c)
            have hX : XOk w (put7 w5 q (.mk 23 tt 0 a t ks) (.slice al ks.length c)) p (.mk 23 tt 0 a t ks) (.slice al ks.length c) _ := XOk.ret (w := w) (q := q) (B := q + 1) ((exV.row hrow5 (unhide HT0)).mono (S' := fun j => w.heap.size ≤ j ∧ j ≠ q) (fun j hj => ⟨by omega, by omega⟩) (fun _ _ _ h => h)) (exF.ne (by decide)) (unhide HPV5) ((Kq.of (S := fun j => j = p) (unhide HB)).andThen (unhide HK5) (fun _ _ h => h)) (by omega) (by omega) (by omega)
            change bodyPost _ _ _ _ _ (put7 w5 q (.mk 23 tt 0 a t ks) (.slice al ks.length c))
            obtain ⟨W9, e9⟩ : ∃ W9, put7 w5 q (.mk 23 tt 0 a t ks) (.slice al ks.length c) = W9 := ⟨_, rfl⟩
            rw [e9]
            rw [e9] at hV hX
            obtain ⟨b0, b1, b2, b3, b4, b5, b6⟩ := var_cells hV
            have HX9 := hide hX
            clear hX hV e9
            refine bodyPost_ret (v := exAgg (.mk 23 tt 0 a t ks) (.slice al ks.length c)) (by simp [results, Tryz.results66, go_sem, b0, b1, b2, b3, b4, b5, b6]) rfl ?_
            exact ⟨_, _, rfl, unhide HX9⟩
end Go.Proofs.YtnmcambbpgoodaaGreatDoor
/- Primaries: xparse's inBrackets, number, primary. -/
namespace Go.Proofs.YtnmcambbpgoodaaGreatDoor
open Go.RowKit Go.Maps
/-- One ( less is open. -/
theorem PV.outt {w : World} {p : Nat} {s : PS} (h : PV w p s.pop) (hs : 0 < s.pop.opn) : ∃ v, w.heap[p]? = some (.cells #[v, .int .i64 (s.opn : Nat), .int .i64 (s.dp : Nat)] 56 (0, 0)) ∧
    PV (w.setCell ⟨p, 1, none⟩ (.int .i64 ((s.opn : Int) - 1))) p ⟨s.left.tail, s.opn - 1, s.dp⟩ := by
  obtain ⟨h0, h1, v, hb, hk, hlr⟩ := h
  have hs' : 0 < s.opn := hs
  have em : (s.opn : Int) - 1 = ((s.opn - 1 : Nat) : Int) := by omega
  rw [em]
  have h0' : s.opn + s.left.tail.length ≤ 100000 := h0
  rcases hlr with ⟨e1, rfl⟩ | ⟨g, o, c, rfl, h4, h5, h6, h7, h8⟩
  · exact ⟨_, hb, by simp only; omega, h1, _, pset hb 1 _, hk, .inl ⟨e1, rfl⟩⟩
  refine ⟨_, hb, by simp only; omega, h1, _, pset hb 1 _, hk, .inr ⟨g, o, c, rfl, h4, h5, h6, by simpa using h7, fun i x hx => ?_⟩⟩
  have hne : ∀ j v, w.cell? ⟨g, j, none⟩ = some v → (w.setCell ⟨p, 1, none⟩ (.int .i64 ((s.opn - 1 : Nat) : Int))).cell? ⟨g, j, none⟩ = some v := fun j v hv => keptK (Kq.set w p 1 _) hv (by simp only; omega)
  obtain ⟨c0, c1, a, c2⟩ := h8 i x hx
  exact ⟨hne _ _ c0, hne _ _ c1, a, hne _ _ c2⟩
/-- One ( more is open. -/
theorem PV.inn {w : World} {p : Nat} {s : PS} (h : PV w p s) (hs : s.opn + s.left.length < 100000) : ∃ v, w.heap[p]? = some (.cells #[v, .int .i64 (s.opn : Nat), .int .i64 (s.dp : Nat)] 56 (0, 0)) ∧
    PV ((w.setCell ⟨p, 1, none⟩ (.int .i64 ((s.opn : Int) + 1))).setCell ⟨p, 2, none⟩ (.int .i64 (max (s.dp : Int) ((s.opn : Int) + 1)))) p ⟨s.left, s.opn + 1, max s.dp (s.opn + 1)⟩ := by
  obtain ⟨h0, h1, v, hb, hk, hlr⟩ := h
  have em : max (s.dp : Int) ((s.opn : Int) + 1) = ((max s.dp (s.opn + 1) : Nat) : Int) := by omega
  rw [em]
  rcases hlr with ⟨e1, rfl⟩ | ⟨g, o, c, rfl, h4, h5, h6, h7, h8⟩
  · exact ⟨_, hb, by simp only; omega, by simp only; omega, _, pset (pset hb 1 (.int .i64 ((s.opn : Int) + 1))) 2 _, hk, .inl ⟨e1, rfl⟩⟩
  refine ⟨_, hb, by simp only; omega, by simp only; omega, _, ?_, hk, .inr ⟨g, o, c, rfl, h4, h5, h6, by simpa using h7, fun i x hx => ?_⟩⟩
  · exact pset (pset hb 1 (.int .i64 ((s.opn : Int) + 1))) 2 _
  · have hne : ∀ j v, w.cell? ⟨g, j, none⟩ = some v → ((w.setCell ⟨p, 1, none⟩ (.int .i64 ((s.opn : Int) + 1))).setCell ⟨p, 2, none⟩ (.int .i64 ((max s.dp (s.opn + 1) : Nat) : Int))).cell? ⟨g, j, none⟩ = some v := fun j v hv => keptK ((Kq.set w p 1 _).andThen (Kq.set _ p 2 _) (fun _ _ h => h)) hv (by simp only; omega)
    obtain ⟨c0, c1, a, c2⟩ := h8 i x hx
    exact ⟨hne _ _ c0, hne _ _ c1, a, hne _ _ c2⟩
set_option maxRecDepth 100000 in
set_option maxHeartbeats 4000000 in
theorem pbr_step (num : List Nat → Option Int) (W0 : World) (n : Nat) (hE : ExprC num W0 n) : BrC num W0 (n + 1) := by
  intro p s w x s' hQ hs hr
  have HB := hide ((Below.refl w.heap.size w).alloc (Nat.le_refl _) expr0)
  have HPL := hide hQ.pv.lt
  have HQ := hide (hQ.alloc expr0)
  have HR0 := hide (palloc_new w expr0)
  have HE := hide hE
  rw [brP] at hr
  clear hQ hE
  cases h1 : exprP num n 0 ⟨s.left, s.opn + 1, max s.dp (s.opn + 1)⟩ with
  | out => rw [h1, PR.bind_out] at hr; cases hr
  | fail => rw [h1, PR.bind_fail] at hr; cases hr
  | ok x1 s1 =>
    rw [h1, PR.bind_ok] at hr
    cases h2 : headIs 9 [41] s1 with
    | false => rw [h2, if_neg (by decide)] at hr; cases hr
    | true =>
      rw [h2, if_pos rfl] at hr
      cases hr
      obtain ⟨v, hb, hpv⟩ := (unhide HQ).pv.inn hs
      have c1 : (w.alloc expr0).cell? ⟨p, 1, none⟩ = some (.int .i64 (s.opn : Nat)) := pcell hb 1
      have c2 : (w.alloc expr0).cell? ⟨p, 2, none⟩ = some (.int .i64 (s.dp : Nat)) := pcell hb 2
      have o1 := popen hb 1
      have o2 := popen hb 2
      have n1 : (s.opn : Int) ≤ 100000 := by omega
      have n2 : (0 : Int) ≤ (s.opn : Int) := by omega
      generalize hwa : w.alloc expr0 = wa at *
      go_enter Tryz.func100, Tryz.ntmps100
      go_wp2_with fail
      go_region
      clear hwa
      have hkc : Kq (fun j => j = p) wa (((wa.setCell ⟨p, 1, none⟩ (.int .i64 ((s.opn : Int) + 1))).setCell ⟨p, 2, none⟩ (.int .i64 (max (s.dp : Int) ((s.opn : Int) + 1)))).drew) := ((Kq.set wa p 1 _).andThen (Kq.set _ p 2 _) (fun _ _ h => h)).drew
      have hpc := hpv.below ((Below.refl _ _).drew)
      generalize ((wa.setCell ⟨p, 1, none⟩ (.int .i64 ((s.opn : Int) + 1))).setCell ⟨p, 2, none⟩ (.int .i64 (max (s.dp : Int) ((s.opn : Int) + 1)))).drew = wc at hkc hpc ⊢
      have HC := hide ((unhide HE) p 0 0 _ wc x s1 rfl (by decide) ((unhide HQ).go hkc hpc) h1)
      have HK := hide hkc
      have HPS := hide ((pres_all num n).1 0 _ x s1 h1).1
      clear hkc hpc hpv c1 c2 o1 o2 hb n1 n2
      go_wp2_with fail
      refine (unhide HC).mono ?_
      rintro e w1 ⟨al, c, rfl, r2⟩
      have hk1 := (unhide HK).andThen r2.kq (fun _ _ h => h)
      have hq1 := blockK hk1 (unhide HR0) (by have := unhide HPL; omega)
      have hq2 : (w1.alloc expr0).heap[w1.heap.size]? = some expr0 := palloc_new w1 expr0
      have hsz := hk1.size
      have hsc := (unhide HK).size
      have hsa : w.heap.size < wa.heap.size := (Array.getElem?_eq_some_iff.1 (unhide HR0)).1
      have hlp : LoopX wa (put7 (w1.alloc expr0) w1.heap.size x (.slice al x.kids.length c)) p w.heap.size w1.heap.size x (.slice al x.kids.length c) s1 := by
        have hk := (Kq.of (S := fun j => j = w1.heap.size) ((Below.refl w1.heap.size w1).alloc (Nat.le_refl _) expr0)).andThen (put7_kq (w1.alloc expr0) w1.heap.size x (.slice al x.kids.length c)) (fun _ _ h => h)
        refine ⟨put7_var hq2 _ _, blockK hk hq1 (by omega), ?_, fun e => ?_, r2.pv.kept hk (fun j e => by have := unhide HPL; omega), hk1.andThen hk (fun j hj e => by omega)⟩
        · exact (r2.ex.bound.mono (S' := fun j => wa.heap.size ≤ j ∧ j ≠ w1.heap.size) (fun j hj => ⟨by omega, by omega⟩) (fun _ _ _ h => h)).kept hk (fun j hj _ e => hj.2 e)
        · obtain ⟨xs, h2⟩ := r2.fl e
          exact ⟨xs, (h2.kept hk (fun j hj _ e => by omega)).base hsc⟩
      have HL := hide hlp
      obtain ⟨a0, a1, a2, a3, a4, a5, a6⟩ := var_cells hq2
      obtain ⟨o0, o1, o2, o3, o4, o5, o6⟩ := var_opens hq2
      have HSA := hide (show w.heap.size < wa.heap.size ∧ wa.heap.size ≤ w1.heap.size ∧ p < w.heap.size from ⟨by omega, by omega, unhide HPL⟩)
      clear r2 hq1 hq2 hlp hsa hsz HC hk1 hsc
      generalize hw1 : w1.alloc expr0 = wb at *
      have HB2 := hide (And.intro (unhide HB) (Eq.refl w.heap.size))
      generalize hq : w.heap.size = q at HL HSA HB2 ⊢
      generalize hq2 : w1.heap.size = q2 at *
      have HQW := hide hq
      clear hq
      go_wp2_with fail
      change Calls _ _ _ (put7 wb q2 x (.slice al x.kids.length c)) _
      obtain ⟨W3, e3⟩ : ∃ W3, put7 wb q2 x (.slice al x.kids.length c) = W3 := ⟨_, rfl⟩
      rw [e3] at HL ⊢
      clear e3 a0 a1 a2 a3 a4 a5 a6 o0 o1 o2 o3 o4 o5 o6
      refine (pneed_at (unhide HL).pv (t := [41]) (okL_p rfl) rfl h2).mono ?_
      rintro e w4 ⟨rfl, r1, r2⟩
      have hL4 := (unhide HL).go r2 r1 (unhide HSA).2.2 (unhide HSA).1 (unhide HSA).2.1
      clear r1 r2
      obtain ⟨v4, hb4, hpv4⟩ := hL4.pv.outt (show 0 < s1.pop.opn from by have h3 := unhide HPS; show 0 < s1.opn; omega)
      have c1 : w4.cell? ⟨p, 1, none⟩ = some (.int .i64 (s1.opn : Nat)) := pcell hb4 1
      have o1 := popen hb4 1
      have hL5 := hL4.go (Kq.set w4 p 1 (.int .i64 ((s1.opn : Int) - 1))) hpv4 (unhide HSA).2.2 (unhide HSA).1 (unhide HSA).2.1
      have n3 : (0 : Int) ≤ (s1.opn : Int) := by omega
      have n4 : (s1.opn : Int) ≤ 100000 := by have := hL4.pv.1; have h5 : s1.pop.opn = s1.opn := rfl; omega
      obtain ⟨W5, e5⟩ : ∃ W5, w4.setCell ⟨p, 1, none⟩ (.int .i64 ((s1.opn : Int) - 1)) = W5 := ⟨_, rfl⟩
      rw [e5] at hL5
      obtain ⟨a0, a1, a2, a3, a4, a5, a6⟩ := var_cells hL5.var
      obtain ⟨b0, b1, b2, b3, b4, b5, b6⟩ := var_cells hL5.res
      obtain ⟨o10, o11, o12, o13, o14, o15, o16⟩ := var_opens hL5.res
      have HL5 := hide hL5
      clear hL4 hL5 hpv4 hb4
      go_wp2_with fail
      have hL2 := unhide HL5
      have hV := put7_var hL2.res x (.slice al x.kids.length c)
      have hX := hL2.put (unhide HSA) ⟨(unhide HB2).1, unhide HQW⟩
      change bodyPost _ _ _ _ _ (put7 W5 q x (.slice al x.kids.length c))
      obtain ⟨W9, e9⟩ : ∃ W9, put7 W5 q x (.slice al x.kids.length c) = W9 := ⟨_, rfl⟩
      rw [e9]
      rw [e9] at hV hX
      clear a0 a1 a2 a3 a4 a5 a6 b0 b1 b2 b3 b4 b5 b6
      obtain ⟨b0, b1, b2, b3, b4, b5, b6⟩ := var_cells hV
      have HX9 := hide hX
      clear hX hV e9
      refine bodyPost_ret (v := exAgg x (.slice al x.kids.length c)) (by simp [results, Tryz.results100, go_sem, b0, b1, b2, b3, b4, b5, b6]) rfl ?_
      exact ⟨_, _, rfl, unhide HX9⟩
end Go.Proofs.YtnmcambbpgoodaaGreatDoor
