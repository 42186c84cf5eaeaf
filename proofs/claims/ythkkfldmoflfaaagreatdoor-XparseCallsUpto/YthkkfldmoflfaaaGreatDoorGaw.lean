/- Several texts, laid as one. -/
import Derived.Test.YthkkfldmoflfaaaGreatDoorParF
import Derived.Test.YthkkfldmoflfaaaGreatDoorGaf
import Derived.Test.YthkkfldmoflfaaaGreatDoorShelf
import Derived.Lib.AppendIntMem
import Derived.Lib.TrimByte
import Derived.Lib.SmallJoins
/- A step, and an expression in ( ): xparse's step, inBrackets. -/
namespace Go.Proofs.YthkkfldmoflfaaaGreatDoor
open Go.RowKit Go.Maps
theorem KRow.exs {w : World} {B : Nat} {v : Value} {ks : List Ex} {xs : List Value} (h : KRow w B v ks xs) : ∃ ys, slAt w (fun j => B ≤ j) v ks.length ys ∧ kidsIn w (fun j => B ≤ j) ks ys := by
  refine ⟨xs, ⟨by
    rcases h.1.2 with ⟨rfl, h0⟩ | ⟨g, cap, cur, rfl, h2, h3, h4⟩
    · exact ⟨none, 0, by rw [show ks.length = 0 by omega], by omega⟩
    · exact ⟨_, cap, rfl, h4.1⟩, fun hn => ?_⟩, kidsIn.mono (fun j hj => hj.1.1) (fun _ _ _ h => h) ks xs h.2⟩
  have hc := @World.ownsRow.cells _ _ _ _ _ _ _ h.1
  rcases h.1.2 with ⟨rfl, h0⟩ | ⟨g, cap, cur, rfl, h2, h3, h4⟩
  · omega
  · exact ⟨g, 0, cap, rfl, h2, (Array.getElem?_eq_some_iff.1 h3).1, fun i u hu => by
      have := hc (g := g) rfl _ _ hu
      rw [Addr.add_mid] at this
      exact this⟩
theorem PQ.belK {W0 w w' : World} {p : Nat} {s : PS} (h : PQ W0 w p s) (hk : Kq (fun j => j = p) w w') : Below W0.heap.size W0 w' :=
  ⟨hk.os.trans h.bel.os, hk.tape.trans h.bel.tape, hk.output.trans h.bel.output, Nat.le_trans h.bel.size hk.size, fun k hk' => by
    rw [hk.block k (Nat.lt_of_lt_of_le hk' h.bel.size) (by have := h.lo; omega)]
    exact h.bel.block k hk'⟩
theorem exV.row {w : World} {B o a t : Nat} {n : Int} {tt : List Nat} {v : Value} {ks : List Ex} {xs : List Value} (h : KRow w B v ks xs) (ht : okL tt) : exV w (fun j => B ≤ j) (.mk o tt n a t ks) v := ⟨ht, h.exs⟩
theorem okL_nil9 : okL [] := fun c hc => by cases hc
theorem exF.ne {w : World} {B o a t : Nat} {n : Int} {tt : List Nat} {v : Value} {ks : List Ex} (h : o ≠ 20) : exF w B v (.mk o tt n a t ks) := fun e => absurd e h
theorem exV.leaf {w : World} {S : Nat → Prop} {o a t c : Nat} {al : Option Addr} {n : Int} {tt : List Nat} (ht : okL tt) : exV w S (.mk o tt n a t []) (.slice al 0 c) := ⟨ht, [], ⟨⟨_, _, rfl, Nat.zero_le _⟩, fun h => absurd h (Nat.lt_irrefl 0)⟩, by show kidsIn w S [] []; rw [kidsIn]⟩
set_option maxRecDepth 100000 in
set_option maxHeartbeats 4000000 in
theorem pstep_step (num : List Nat → Option Int) (W0 : World) (n : Nat) (hG : EnvG W0) (hP : PredsC num W0 n) (hn : n ≤ 90000) : StepC num W0 (n + 1) := by
  intro p s w x s' hQ hr
  have HB := hide ((Below.refl w.heap.size w).alloc (Nat.le_refl _) expr0)
  have HPL := hide hQ.pv.lt
  have HQ := hide (hQ.alloc expr0)
  have HR0 := hide (palloc_new w expr0)
  have HG := hide hG
  have HP := hide hP
  have HQ0 := hide hQ
  rw [stepP] at hr
  clear hQ hG hP
  cases h1 : headIs 9 [46] s with
  | true =>
    rw [h1, if_pos rfl] at hr
    cases hr
    go_enter Tryz.func80, Tryz.ntmps80
    go_wp2_with fail
    refine (psign_at (unhide HQ).pv (t := [46]) (okL_p rfl) rfl h1).mono ?_
    rintro e w1 ⟨rfl, r1, r2⟩
    have HPV1 : Hid (PV w1 p s.pop) := hide r1
    have HK1 := hide r2
    clear r1 r2
    have hq1 := blockK (unhide HK1) (unhide HR0) (by have := unhide HPL; omega)
    generalize hq : w.heap.size = q at hq1 ⊢
    have HQQ := hide hq
    have HQ1 := hide hq1
    obtain ⟨a0, a1, a2, a3, a4, a5, a6⟩ := var_cells hq1
    obtain ⟨o0, o1, o2, o3, o4, o5, o6⟩ := var_opens hq1
    clear hq1 hq
    go_wp2_with fail
    have hqq := unhide HQQ
    have hpl := unhide HPL
    have hV := put7_var (unhide HQ1) (.mk 23 [] 0 9 3 []) (.slice none 0 0)
    have hX : XOk w (put7 w1 q (.mk 23 [] 0 9 3 []) (.slice none 0 0)) p (.mk 23 [] 0 9 3 []) (.slice none 0 0) _ := XOk.ret (w := w) (q := q) (B := q + 1) (exV.leaf okL_nil9) (exF.ne (by decide)) (unhide HPV1) ((Kq.of (S := fun j => j = p) (unhide HB)).andThen (unhide HK1) (fun _ _ h => h)) (by omega) (by omega) (by omega)
    change bodyPost _ _ _ _ _ (put7 w1 q (.mk 23 [] 0 9 3 []) (.slice none 0 0))
    obtain ⟨W9, e9⟩ : ∃ W9, put7 w1 q (.mk 23 [] 0 9 3 []) (.slice none 0 0) = W9 := ⟨_, rfl⟩
    rw [e9]
    rw [e9] at hV hX
    obtain ⟨b0, b1, b2, b3, b4, b5, b6⟩ := var_cells hV
    have HX9 := hide hX
    clear hX hV e9
    refine bodyPost_ret (v := exAgg (.mk 23 [] 0 9 3 []) (.slice none 0 0)) (by simp [results, Tryz.results80, go_sem, b0, b1, b2, b3, b4, b5, b6]) rfl ?_
    exact ⟨_, _, rfl, unhide HX9⟩
  | false =>
    rw [h1, if_neg (by decide)] at hr
    cases h2 : headIs 9 [46, 46] s with
    | true =>
      rw [h2, if_pos rfl] at hr
      cases hr
      go_enter Tryz.func80, Tryz.ntmps80
      go_wp2_with fail
      refine (psign_at (unhide HQ).pv (t := [46]) (okL_p rfl) rfl h1).mono ?_
      rintro e w1 ⟨rfl, r1, r2⟩
      have HPV1 : Hid (PV w1 p s) := hide r1
      have HK1 := hide r2
      clear r1 r2
      go_wp2_with fail
      refine (psign_at (unhide HPV1) (t := [46, 46]) (okL_p rfl) rfl h2).mono ?_
      rintro e w2 ⟨rfl, r1, r2⟩
      have HPV2 : Hid (PV w2 p s.pop) := hide r1
      have HK2 := hide ((unhide HK1).andThen r2 (fun _ _ h => h))
      clear r1 r2
      have hq1 := blockK (unhide HK2) (unhide HR0) (by have := unhide HPL; omega)
      generalize hq : w.heap.size = q at hq1 ⊢
      have HQQ := hide hq
      have HQ1 := hide hq1
      obtain ⟨a0, a1, a2, a3, a4, a5, a6⟩ := var_cells hq1
      obtain ⟨o0, o1, o2, o3, o4, o5, o6⟩ := var_opens hq1
      clear hq1 hq
      go_wp2_with fail
      have hqq := unhide HQQ
      have hpl := unhide HPL
      have hV := put7_var (unhide HQ1) (.mk 23 [] 0 2 3 []) (.slice none 0 0)
      have hX : XOk w (put7 w2 q (.mk 23 [] 0 2 3 []) (.slice none 0 0)) p (.mk 23 [] 0 2 3 []) (.slice none 0 0) _ := XOk.ret (w := w) (q := q) (B := q + 1) (exV.leaf okL_nil9) (exF.ne (by decide)) (unhide HPV2) ((Kq.of (S := fun j => j = p) (unhide HB)).andThen (unhide HK2) (fun _ _ h => h)) (by omega) (by omega) (by omega)
      change bodyPost _ _ _ _ _ (put7 w2 q (.mk 23 [] 0 2 3 []) (.slice none 0 0))
      obtain ⟨W9, e9⟩ : ∃ W9, put7 w2 q (.mk 23 [] 0 2 3 []) (.slice none 0 0) = W9 := ⟨_, rfl⟩
      rw [e9]
      rw [e9] at hV hX
      obtain ⟨b0, b1, b2, b3, b4, b5, b6⟩ := var_cells hV
      have HX9 := hide hX
      clear hX hV e9
      refine bodyPost_ret (v := exAgg (.mk 23 [] 0 2 3 []) (.slice none 0 0)) (by simp [results, Tryz.results80, go_sem, b0, b1, b2, b3, b4, b5, b6]) rfl ?_
      exact ⟨_, _, rfl, unhide HX9⟩
    | false =>
      rw [h2, if_neg (by decide)] at hr
      cases h3 : axisP s with
      | none => rw [h3] at hr; cases hr
      | some ax =>
        obtain ⟨a, s1⟩ := ax
        rw [h3] at hr
        simp only at hr
        cases h4 : testP s1 with
        | none => rw [h4] at hr; cases hr
        | some te =>
          obtain ⟨t, tt, s2⟩ := te
          rw [h4] at hr
          simp only at hr
          cases h5 : predsP num n [] s2 with
          | out => rw [h5, PR.bind_out] at hr; cases hr
          | fail => rw [h5, PR.bind_fail] at hr; cases hr
          | ok ks s3 =>
            rw [h5, PR.bind_ok] at hr
            cases hr
            go_enter Tryz.func80, Tryz.ntmps80
            go_wp2_with fail
            refine (psign_at (unhide HQ).pv (t := [46]) (okL_p rfl) rfl h1).mono ?_
            rintro e w1 ⟨rfl, r1, r2⟩
            have HPV1 : Hid (PV w1 p s) := hide r1
            have HK1 := hide r2
            clear r1 r2
            go_wp2_with fail
            refine (psign_at (unhide HPV1) (t := [46, 46]) (okL_p rfl) rfl h2).mono ?_
            rintro e w2 ⟨rfl, r1, r2⟩
            have HPV2 : Hid (PV w2 p s) := hide r1
            have HK2 := hide ((unhide HK1).andThen r2 (fun _ _ h => h))
            clear r1 r2
            have hax := paxis_any p s w2 (unhide HPV2) (fun w' hk => (unhide HG).below ((unhide HQ).belK ((unhide HK2).andThen hk (fun _ _ h => h))))
            rw [h3] at hax
            have HAX := hide hax
            clear hax
            go_wp2_with fail
            refine (unhide HAX).mono ?_
            rintro e w3 ⟨rfl, r1, r2⟩
            have HPV3 := hide r1
            have HK3 := hide ((unhide HK2).andThen r2 (fun _ _ h => h))
            clear r1 r2 HAX
            have hte := ptest_any p s1 w3 (unhide HPV3) (fun w' hk => (unhide HG).below ((unhide HQ).belK ((unhide HK3).andThen hk (fun _ _ h => h))))
            rw [h4] at hte
            have HTE := hide hte
            clear hte
            go_wp2_with fail
            refine (unhide HTE).mono ?_
            rintro e w4 ⟨r0, rfl, r1, r2⟩
            have HPV4 := hide r1
            have HT0 := hide r0
            have HK4 := hide ((unhide HK3).andThen r2 (fun _ _ h => h))
            clear r0 r1 r2 HTE
            have HC := hide ((unhide HP) p w4.heap.size none 0 [] [] s2 w4 ks s' ((unhide HQ).go (unhide HK4) (unhide HPV4)) (unhide HPV4).lt (Nat.le_refl _) (KRow.nil _ _) (by simp; omega) h5)
            go_wp2_with fail
            refine (unhide HC).mono ?_
            rintro e w5 ⟨al, c, rfl, r2⟩
            have HO := hide r2
            have HK5 := hide ((unhide HK4).andThen (r2.kq.more (S' := fun j => j = p) (fun j _ hj => hj.elim id (fun e => by cases e))) (fun _ _ h => h))
            have HPV5 := hide r2.pv
            have hs4 := (unhide HK4).size
            have HS4 := hide hs4
            clear r2 HC hs4
            have hq1 := blockK (unhide HK5) (unhide HR0) (by have := unhide HPL; omega)
            generalize hq : w.heap.size = q at hq1 ⊢
            have HQQ := hide hq
            have HQ1 := hide hq1
            obtain ⟨a0, a1, a2, a3, a4, a5, a6⟩ := var_cells hq1
            obtain ⟨o0, o1, o2, o3, o4, o5, o6⟩ := var_opens hq1
            clear hq1 hq
            go_wp2_with fail
            have hqq := unhide HQQ
            have hpl := unhide HPL
            have hs4 := unhide HS4
            have hsa := alloc_lt9 w expr0
            obtain ⟨_, _, _, hrow5, _⟩ := (unhide HO).row
            have hV := put7_var (unhide HQ1) (.mk 23 tt 0 a t ks) (.slice al ks.length c)
            have hX : XOk w (put7 w5 q (.mk 23 tt 0 a t ks) (.slice al ks.length c)) p (.mk 23 tt 0 a t ks) (.slice al ks.length c) _ := XOk.ret (w := w) (q := q) (B := q + 1) ((exV.row hrow5 (unhide HT0)).mono (S' := fun j => w.heap.size ≤ j ∧ j ≠ q) (fun j hj => ⟨by omega, by omega⟩) (fun _ _ _ h => h)) (exF.ne (by decide)) (unhide HPV5) ((Kq.of (S := fun j => j = p) (unhide HB)).andThen (unhide HK5) (fun _ _ h => h)) (by omega) (by omega) (by omega)
            change bodyPost _ _ _ _ _ (put7 w5 q (.mk 23 tt 0 a t ks) (.slice al ks.length c))
            obtain ⟨W9, e9⟩ : ∃ W9, put7 w5 q (.mk 23 tt 0 a t ks) (.slice al ks.length c) = W9 := ⟨_, rfl⟩
            rw [e9]
            rw [e9] at hV hX
            obtain ⟨b0, b1, b2, b3, b4, b5, b6⟩ := var_cells hV
            have HX9 := hide hX
            clear hX hV e9
            refine bodyPost_ret (v := exAgg (.mk 23 tt 0 a t ks) (.slice al ks.length c)) (by simp [results, Tryz.results80, go_sem, b0, b1, b2, b3, b4, b5, b6]) rfl ?_
            exact ⟨_, _, rfl, unhide HX9⟩
end Go.Proofs.YthkkfldmoflfaaaGreatDoor
/- Primaries: xparse's inBrackets, number, primary. -/
namespace Go.Proofs.YthkkfldmoflfaaaGreatDoor
open Go.RowKit Go.Maps
/-- One ( less is open. -/
theorem PV.outt {w : World} {p : Nat} {s : PS} (h : PV w p s.pop) (hs : 0 < s.pop.opn) : ∃ v, w.heap[p]? = some (.cells #[v, .int .i64 (s.opn : Nat), .int .i64 (s.dp : Nat)] 48 (0, 0)) ∧
    PV (w.setCell ⟨p, 1, none⟩ (.int .i64 ((s.opn : Int) - 1))) p ⟨s.left.tail, s.opn - 1, s.dp⟩ := by
  obtain ⟨h0, h1, v, hb, hk, hlr⟩ := h
  have hs' : 0 < s.opn := hs
  have em : (s.opn : Int) - 1 = ((s.opn - 1 : Nat) : Int) := by omega
  rw [em]
  have h0' : s.opn + s.left.tail.length ≤ 100000 := h0
  rcases hlr with ⟨e1, rfl⟩ | ⟨g, o, c, rfl, h4, h5, h6, h7, h8⟩
  · exact ⟨_, hb, by simp only; omega, h1, _, pset hb 1 _, hk, .inl ⟨e1, rfl⟩⟩
  refine ⟨_, hb, by simp only; omega, h1, _, pset hb 1 _, hk, .inr ⟨g, o, c, rfl, h4, h5, h6, by simpa using h7, fun i x hx => ?_⟩⟩
  have hne : ∀ j v, w.cell? ⟨g, j, none⟩ = some v → (w.setCell ⟨p, 1, none⟩ (.int .i64 ((s.opn - 1 : Nat) : Int))).cell? ⟨g, j, none⟩ = some v := fun j v hv => keptK (Kq.set w p 1 _) hv (by simp only; omega)
  obtain ⟨c0, c1, a, c2⟩ := h8 i x hx
  exact ⟨hne _ _ c0, hne _ _ c1, a, hne _ _ c2⟩
/-- One ( more is open. -/
theorem PV.inn {w : World} {p : Nat} {s : PS} (h : PV w p s) (hs : s.opn + s.left.length < 100000) : ∃ v, w.heap[p]? = some (.cells #[v, .int .i64 (s.opn : Nat), .int .i64 (s.dp : Nat)] 48 (0, 0)) ∧
    PV ((w.setCell ⟨p, 1, none⟩ (.int .i64 ((s.opn : Int) + 1))).setCell ⟨p, 2, none⟩ (.int .i64 (max (s.dp : Int) ((s.opn : Int) + 1)))) p ⟨s.left, s.opn + 1, max s.dp (s.opn + 1)⟩ := by
  obtain ⟨h0, h1, v, hb, hk, hlr⟩ := h
  have em : max (s.dp : Int) ((s.opn : Int) + 1) = ((max s.dp (s.opn + 1) : Nat) : Int) := by omega
  rw [em]
  rcases hlr with ⟨e1, rfl⟩ | ⟨g, o, c, rfl, h4, h5, h6, h7, h8⟩
  · exact ⟨_, hb, by simp only; omega, by simp only; omega, _, pset (pset hb 1 (.int .i64 ((s.opn : Int) + 1))) 2 _, hk, .inl ⟨e1, rfl⟩⟩
  refine ⟨_, hb, by simp only; omega, by simp only; omega, _, ?_, hk, .inr ⟨g, o, c, rfl, h4, h5, h6, by simpa using h7, fun i x hx => ?_⟩⟩
  · exact pset (pset hb 1 (.int .i64 ((s.opn : Int) + 1))) 2 _
  · have hne : ∀ j v, w.cell? ⟨g, j, none⟩ = some v → ((w.setCell ⟨p, 1, none⟩ (.int .i64 ((s.opn : Int) + 1))).setCell ⟨p, 2, none⟩ (.int .i64 ((max s.dp (s.opn + 1) : Nat) : Int))).cell? ⟨g, j, none⟩ = some v := fun j v hv => keptK ((Kq.set w p 1 _).andThen (Kq.set _ p 2 _) (fun _ _ h => h)) hv (by simp only; omega)
    obtain ⟨c0, c1, a, c2⟩ := h8 i x hx
    exact ⟨hne _ _ c0, hne _ _ c1, a, hne _ _ c2⟩
set_option maxRecDepth 100000 in
set_option maxHeartbeats 4000000 in
theorem pbr_step (num : List Nat → Option Int) (W0 : World) (n : Nat) (hE : ExprC num W0 n) : BrC num W0 (n + 1) := by
  intro p s w x s' hQ hs hr
  have HB := hide ((Below.refl w.heap.size w).alloc (Nat.le_refl _) expr0)
  have HPL := hide hQ.pv.lt
  have HQ := hide (hQ.alloc expr0)
  have HR0 := hide (palloc_new w expr0)
  have HE := hide hE
  rw [brP] at hr
  clear hQ hE
  cases h1 : exprP num n 0 ⟨s.left, s.opn + 1, max s.dp (s.opn + 1)⟩ with
  | out => rw [h1, PR.bind_out] at hr; cases hr
  | fail => rw [h1, PR.bind_fail] at hr; cases hr
  | ok x1 s1 =>
    rw [h1, PR.bind_ok] at hr
    cases h2 : headIs 9 [41] s1 with
    | false => rw [h2, if_neg (by decide)] at hr; cases hr
    | true =>
      rw [h2, if_pos rfl] at hr
      cases hr
      obtain ⟨v, hb, hpv⟩ := (unhide HQ).pv.inn hs
      have c1 : (w.alloc expr0).cell? ⟨p, 1, none⟩ = some (.int .i64 (s.opn : Nat)) := pcell hb 1
      have c2 : (w.alloc expr0).cell? ⟨p, 2, none⟩ = some (.int .i64 (s.dp : Nat)) := pcell hb 2
      have o1 := popen hb 1
      have o2 := popen hb 2
      have n1 : (s.opn : Int) ≤ 100000 := by omega
      have n2 : (0 : Int) ≤ (s.opn : Int) := by omega
      generalize hwa : w.alloc expr0 = wa at *
      go_enter Tryz.func130, Tryz.ntmps130
      go_wp2_with fail
      go_region
      clear hwa
      have hkc : Kq (fun j => j = p) wa (((wa.setCell ⟨p, 1, none⟩ (.int .i64 ((s.opn : Int) + 1))).setCell ⟨p, 2, none⟩ (.int .i64 (max (s.dp : Int) ((s.opn : Int) + 1)))).drew) := ((Kq.set wa p 1 _).andThen (Kq.set _ p 2 _) (fun _ _ h => h)).drew
      have hpc := hpv.below ((Below.refl _ _).drew)
      generalize ((wa.setCell ⟨p, 1, none⟩ (.int .i64 ((s.opn : Int) + 1))).setCell ⟨p, 2, none⟩ (.int .i64 (max (s.dp : Int) ((s.opn : Int) + 1)))).drew = wc at hkc hpc ⊢
      have HC := hide ((unhide HE) p 0 0 _ wc x s1 rfl (by decide) ((unhide HQ).go hkc hpc) h1)
      have HK := hide hkc
      have HPS := hide ((pres_all num n).1 0 _ x s1 h1).1
      clear hkc hpc hpv c1 c2 o1 o2 hb n1 n2
      go_wp2_with fail
      refine (unhide HC).mono ?_
      rintro e w1 ⟨al, c, rfl, r2⟩
      have hk1 := (unhide HK).andThen r2.kq (fun _ _ h => h)
      have hq1 := blockK hk1 (unhide HR0) (by have := unhide HPL; omega)
      have hq2 : (w1.alloc expr0).heap[w1.heap.size]? = some expr0 := palloc_new w1 expr0
      have hsz := hk1.size
      have hsc := (unhide HK).size
      have hsa : w.heap.size < wa.heap.size := (Array.getElem?_eq_some_iff.1 (unhide HR0)).1
      have hlp : LoopX wa (put7 (w1.alloc expr0) w1.heap.size x (.slice al x.kids.length c)) p w.heap.size w1.heap.size x (.slice al x.kids.length c) s1 := by
        have hk := (Kq.of (S := fun j => j = w1.heap.size) ((Below.refl w1.heap.size w1).alloc (Nat.le_refl _) expr0)).andThen (put7_kq (w1.alloc expr0) w1.heap.size x (.slice al x.kids.length c)) (fun _ _ h => h)
        refine ⟨put7_var hq2 _ _, blockK hk hq1 (by omega), ?_, fun e => ?_, r2.pv.kept hk (fun j e => by have := unhide HPL; omega), hk1.andThen hk (fun j hj e => by omega)⟩
        · exact (r2.ex.bound.mono (S' := fun j => wa.heap.size ≤ j ∧ j ≠ w1.heap.size) (fun j hj => ⟨by omega, by omega⟩) (fun _ _ _ h => h)).kept hk (fun j hj _ e => hj.2 e)
        · obtain ⟨xs, h2⟩ := r2.fl e
          exact ⟨xs, (h2.kept hk (fun j hj _ e => by omega)).base hsc⟩
      have HL := hide hlp
      obtain ⟨a0, a1, a2, a3, a4, a5, a6⟩ := var_cells hq2
      obtain ⟨o0, o1, o2, o3, o4, o5, o6⟩ := var_opens hq2
      have HSA := hide (show w.heap.size < wa.heap.size ∧ wa.heap.size ≤ w1.heap.size ∧ p < w.heap.size from ⟨by omega, by omega, unhide HPL⟩)
      clear r2 hq1 hq2 hlp hsa hsz HC hk1 hsc
      generalize hw1 : w1.alloc expr0 = wb at *
      have HB2 := hide (And.intro (unhide HB) (Eq.refl w.heap.size))
      generalize hq : w.heap.size = q at HL HSA HB2 ⊢
      generalize hq2 : w1.heap.size = q2 at *
      have HQW := hide hq
      clear hq
      go_wp2_with fail
      change Calls _ _ _ (put7 wb q2 x (.slice al x.kids.length c)) _
      obtain ⟨W3, e3⟩ : ∃ W3, put7 wb q2 x (.slice al x.kids.length c) = W3 := ⟨_, rfl⟩
      rw [e3] at HL ⊢
      clear e3 a0 a1 a2 a3 a4 a5 a6 o0 o1 o2 o3 o4 o5 o6
      refine (pneed_at (unhide HL).pv (t := [41]) (okL_p rfl) rfl h2).mono ?_
      rintro e w4 ⟨rfl, r1, r2⟩
      have hL4 := (unhide HL).go r2 r1 (unhide HSA).2.2 (unhide HSA).1 (unhide HSA).2.1
      clear r1 r2
      obtain ⟨v4, hb4, hpv4⟩ := hL4.pv.outt (show 0 < s1.pop.opn from by have h3 := unhide HPS; show 0 < s1.opn; omega)
      have c1 : w4.cell? ⟨p, 1, none⟩ = some (.int .i64 (s1.opn : Nat)) := pcell hb4 1
      have o1 := popen hb4 1
      have hL5 := hL4.go (Kq.set w4 p 1 (.int .i64 ((s1.opn : Int) - 1))) hpv4 (unhide HSA).2.2 (unhide HSA).1 (unhide HSA).2.1
      have n3 : (0 : Int) ≤ (s1.opn : Int) := by omega
      have n4 : (s1.opn : Int) ≤ 100000 := by have := hL4.pv.1; have h5 : s1.pop.opn = s1.opn := rfl; omega
      obtain ⟨W5, e5⟩ : ∃ W5, w4.setCell ⟨p, 1, none⟩ (.int .i64 ((s1.opn : Int) - 1)) = W5 := ⟨_, rfl⟩
      rw [e5] at hL5
      obtain ⟨a0, a1, a2, a3, a4, a5, a6⟩ := var_cells hL5.var
      obtain ⟨b0, b1, b2, b3, b4, b5, b6⟩ := var_cells hL5.res
      obtain ⟨o10, o11, o12, o13, o14, o15, o16⟩ := var_opens hL5.res
      have HL5 := hide hL5
      clear hL4 hL5 hpv4 hb4
      go_wp2_with fail
      have hL2 := unhide HL5
      have hV := put7_var hL2.res x (.slice al x.kids.length c)
      have hX := hL2.put (unhide HSA) ⟨(unhide HB2).1, unhide HQW⟩
      change bodyPost _ _ _ _ _ (put7 W5 q x (.slice al x.kids.length c))
      obtain ⟨W9, e9⟩ : ∃ W9, put7 W5 q x (.slice al x.kids.length c) = W9 := ⟨_, rfl⟩
      rw [e9]
      rw [e9] at hV hX
      clear a0 a1 a2 a3 a4 a5 a6 b0 b1 b2 b3 b4 b5 b6
      obtain ⟨b0, b1, b2, b3, b4, b5, b6⟩ := var_cells hV
      have HX9 := hide hX
      clear hX hV e9
      refine bodyPost_ret (v := exAgg x (.slice al x.kids.length c)) (by simp [results, Tryz.results130, go_sem, b0, b1, b2, b3, b4, b5, b6]) rfl ?_
      exact ⟨_, _, rfl, unhide HX9⟩
end Go.Proofs.YthkkfldmoflfaaaGreatDoor
/- A number's digits: strconv.FormatUint at base 10. -/
namespace Go.Proofs.YthkkfldmoflfaaaGreatDoor
open Go.RowKit Go.Sort
set_option maxRecDepth 100000 in
set_option maxHeartbeats 1000000 in
theorem formatUint_small (i : Nat) (hi : i < 100) (w : World) :
    Calls Tryz.prog 118 #[.int .u64 (i : Int), .int .i64 10] w fun e w' => e = .returned (.string ⟨(Lib.decDigits i).toArray⟩) ∧ w' = w := by
  have hi' : (i : Int) < 100 := by omega
  go_enter Tryz.func118, Tryz.ntmps118
  go_wp2_with (go_at_call 141; refine (Tryz.internal_strconv_small i hi _).mono ?_; rintro e w' ⟨rfl, rfl⟩)
  go_ret
  exact ⟨rfl, rfl⟩
set_option maxRecDepth 100000 in
set_option maxHeartbeats 1000000 in
theorem formatUint_great (u : Nat) (hu : 100 ≤ u) (hu64 : u < 18446744073709551616) (w : World) (htab : Lib.TabIs Tryz.prog w "internal/strconv.uint64pow10" .u64 Lib.pow10Tab) :
    Calls Tryz.prog 118 #[.int .u64 (u : Int), .int .i64 10] w fun e w' => e = .returned (.string ⟨(Lib.decDigits u).toArray⟩) ∧ Below w.heap.size w w' := by
  have hu' : ¬ (u : Int) < 100 := by omega
  have hu1 : 1 ≤ u := by omega
  have hnd20 : Lib.nDigits u ≤ 20 := by have := Lib.numDigits_eq u hu1 hu64; split at this <;> omega
  have hal : Tryz.prog.arrayLen 164 = 24 := by simp [Program.arrayLen, Tryz.underlying164]
  have hsl : ∀ W, (Instr.sliceAt 164 (.pointer (some ⟨w.heap.size, 0, none⟩)) none (some (.int .i64 (Lib.nDigits u : Int))) none).run Tryz.prog W = .ok (.slice (some ⟨w.heap.size, 0, none⟩) (Lib.nDigits u) 24) W := fun W => by
    rw [run_sliceAt_array_h W 164 ⟨w.heap.size, 0, none⟩ (by simp [Program.arrayLen, Program.elem, Tryz.underlying164]) .i64 (Lib.nDigits u : Int) (by omega) (by rw [hal]; omega)]
    go_simp
  have hH0 := Lib.holds_zero0 w 164 (Lib.nDigits u) (by omega)
  have hfmt := Tryz.internal_strconv_formatBase10 w.heap.size 0 24 u (Array.replicate (Lib.nDigits u) 0) (w.alloc (.cells Lib.zeros24 164)) hH0 (by rw [Array.size_replicate]; exact Lib.lt_pow_nDigits u) hu64 (by rw [Array.size_replicate]; omega)
  rw [Array.size_replicate] at hfmt
  have HH0 := hide hH0
  clear hH0 hal
  go_enter Tryz.func118, Tryz.ntmps118
  go_wp2_with (go_at_call 142; refine (Tryz.internal_strconv_numDigits u hu1 hu64 _ (Lib.tabIs_alloc htab _)).mono ?_; rintro e w' ⟨rfl, rfl⟩)
  refine hfmt.mono ?_
  rintro e w' ⟨rfl, k, v', dk, rfl, hF⟩
  have hcv : (convert 73 9 (.slice (some ⟨w.heap.size, 0, none⟩) (Lib.nDigits u) 24)).run Tryz.prog ((putRow (fun (b : UInt8) => Value.int .u8 (b.toNat : Int)) (w.alloc (.cells Lib.zeros24 164)) w.heap.size 0 dk).drewN k) = .ok (.string ⟨(Lib.decDigits u).toArray⟩) ((putRow (fun (b : UInt8) => Value.int .u8 (b.toNat : Int)) (w.alloc (.cells Lib.zeros24 164)) w.heap.size 0 dk).drewN k) := by
    have h := run_convert_bytes_back (P := Tryz.prog) ((putRow (fun (b : UInt8) => Value.int .u8 (b.toNat : Int)) (w.alloc (.cells Lib.zeros24 164)) w.heap.size 0 dk).drewN k) 73 9 5 ⟨w.heap.size, 0, none⟩ 24 (Lib.decDigits u) Tryz.underlying73 Tryz.underlying5 Tryz.underlying9 (fun j hj => by
      rw [Lib.row_is_numeral hF j hj, Lib.add_plain, World.cell?_drewN]
      exact Sort.cell?_putRow (fun (b : UInt8) => Value.int .u8 (b.toNat : Int)) _ w.heap.size 0 _ dk (unhide HH0) (by rw [hF.size, Array.size_replicate]) j (by rw [hF.size]; rw [Lib.decDigits_length] at hj; exact hj))
    rw [Lib.decDigits_length] at h
    exact h
  go_wp2
  go_ret
  refine ⟨rfl, ?_⟩
  obtain ⟨os', _, e⟩ := putRow_grow_new (fun (b : UInt8) => Value.int .u8 (b.toNat : Int)) w #[.cells Lib.zeros24 164] w.heap.size 0 dk (Nat.le_refl _)
  have e2 : (putRow (fun (b : UInt8) => Value.int .u8 (b.toNat : Int)) (w.alloc (.cells Lib.zeros24 164)) w.heap.size 0 dk).drewN k = grow (w.drewN k) os' := by
    rw [alloc_eq_grow, e]; rfl
  rw [e2]
  exact Lib.below_grow _ w (Nat.le_refl _) k os'
/-- The public one, too. -/
theorem formatUint_any (u : Nat) (hu64 : u < 18446744073709551616) (w : World) (htab : Lib.TabIs Tryz.prog w "internal/strconv.uint64pow10" .u64 Lib.pow10Tab) :
    Calls Tryz.prog 89 #[.int .u64 (u : Int), .int .i64 10] w fun e w' => e = .returned (.string ⟨(Lib.decDigits u).toArray⟩) ∧ Below w.heap.size w w' := by
  have hin : ∀ w, Lib.TabIs Tryz.prog w "internal/strconv.uint64pow10" .u64 Lib.pow10Tab → Calls Tryz.prog 118 #[.int .u64 (u : Int), .int .i64 10] w fun e w' => e = .returned (.string ⟨(Lib.decDigits u).toArray⟩) ∧ Below w.heap.size w w' := by
    intro w htab
    by_cases h : u < 100
    · refine (formatUint_small u h w).mono ?_
      rintro e w' ⟨rfl, rfl⟩
      exact ⟨rfl, Below.refl _ _⟩
    · exact formatUint_great u (by omega) hu64 w htab
  have HI := hide (hin w htab)
  clear hin
  go_enter Tryz.func89, Tryz.ntmps89
  go_wp2_with (go_at_call 118; refine (unhide HI).mono ?_; rintro e w' ⟨rfl, hb⟩)
  go_ret
  exact ⟨rfl, hb⟩
end Go.Proofs.YthkkfldmoflfaaaGreatDoor
/- Noughts ahead, and none behind: xnum's padLeft and placesOf. -/
namespace Go.Proofs.YthkkfldmoflfaaaGreatDoor
open Go.RowKit
set_option maxHeartbeats 1000000 in
theorem padLeft_any (s : ByteArray) (n : Nat) (w : World) (hs : s.size ≤ 1000000) (hn : n ≤ 1000000) :
    Calls Tryz.prog 120 #[.string s, .int .i64 (n : Int)] w fun e w' => e = .returned (.string ((⟨(Lib.repeatL [48] (n - s.size)).toArray⟩ : ByteArray) ++ s)) ∧ Below w.heap.size w w' := by
  have HR := hide (fun w => Tryz.strings_Repeat ⟨#[48]⟩ (n - s.size) w (by omega) (by show 1 * (n - s.size) ≤ _; omega))
  by_cases h : s.size ≤ n
  · have e1 : max ((n : Int) - (s.size : Int)) 0 = ((n - s.size : Nat) : Int) := by omega
    go_enter Tryz.func120, Tryz.ntmps120
    go_wp2_with fail
    refine (unhide HR _).mono ?_
    rintro e w1 ⟨rfl, hb⟩
    have hsz : (⟨(Lib.repeatL [48] (n - s.size)).toArray⟩ : ByteArray).size ≤ 1000000 := by
      show (Lib.repeatL [48] (n - s.size)).toArray.size ≤ 1000000
      simp [Lib.repeatL_length]
      omega
    generalize hR : (⟨(Lib.repeatL [48] (n - s.size)).toArray⟩ : ByteArray) = R at *
    have HRR := hide hR
    clear hR
    go_wp2
    go_ret
    exact ⟨by rw [unhide HRR]; rfl, hb⟩
  · have e1 : max ((n : Int) - (s.size : Int)) 0 = ((n - s.size : Nat) : Int) := by omega
    go_enter Tryz.func120, Tryz.ntmps120
    go_wp2_with fail
    refine (unhide HR _).mono ?_
    rintro e w1 ⟨rfl, hb⟩
    have hsz : (⟨(Lib.repeatL [48] (n - s.size)).toArray⟩ : ByteArray).size ≤ 1000000 := by
      show (Lib.repeatL [48] (n - s.size)).toArray.size ≤ 1000000
      simp [Lib.repeatL_length]
      omega
    generalize hR : (⟨(Lib.repeatL [48] (n - s.size)).toArray⟩ : ByteArray) = R at *
    have HRR := hide hR
    clear hR
    go_wp2
    go_ret
    exact ⟨by rw [unhide HRR]; rfl, hb⟩
/-- What stands behind the point for so many millionths. -/
def placesL (m : Nat) : List UInt8 := Lib.trimRightB ((⟨(Lib.repeatL [48] (6 - (Lib.decDigits m).length)).toArray⟩ : ByteArray) ++ ⟨(Lib.decDigits m).toArray⟩).data.toList 48
theorem digits_small (m : Nat) (h : m < 18446744073709551616) : (Lib.decDigits m).length ≤ 20 := by
  rw [Lib.decDigits_length]
  by_cases h0 : 1 ≤ m
  · have := Lib.numDigits_eq m h0 h
    split at this <;> omega
  · have : m = 0 := by omega
    subst this
    decide +kernel
set_option maxHeartbeats 1000000 in
theorem placesOf_any (m : Nat) (w : World) (hm : m < 18446744073709551616) (htab : Lib.TabIs Tryz.prog w "internal/strconv.uint64pow10" .u64 Lib.pow10Tab) :
    Calls Tryz.prog 90 #[.int .u64 (m : Int)] w fun e w' => e = .returned (.string ⟨(placesL m).toArray⟩) ∧ Below w.heap.size w w' := by
  have hd := digits_small m hm
  have HF := hide (formatUint_any m hm w htab)
  have HP := hide (fun w => padLeft_any ⟨(Lib.decDigits m).toArray⟩ 6 w (by show (Lib.decDigits m).toArray.size ≤ _; simp; omega) (by omega))
  have HT := hide (fun w => Tryz.strings_TrimRight_one ((⟨(Lib.repeatL [48] (6 - (⟨(Lib.decDigits m).toArray⟩ : ByteArray).size)).toArray⟩ : ByteArray) ++ ⟨(Lib.decDigits m).toArray⟩) 48 (by decide) w (by
    rw [ByteArray.size_append]
    show (Lib.repeatL [48] _).toArray.size + (Lib.decDigits m).toArray.size ≤ _
    simp [Lib.repeatL_length]
    omega))
  clear htab hd
  go_enter Tryz.func90, Tryz.ntmps90
  go_wp2_with fail
  refine (unhide HF).mono ?_
  rintro e w1 ⟨rfl, hb1⟩
  go_wp2_with fail
  refine (unhide HP _).mono ?_
  rintro e w2 ⟨rfl, hb2⟩
  go_wp2_with fail
  refine (unhide HT _).mono ?_
  rintro e w3 ⟨rfl, rfl⟩
  go_wp2
  go_ret
  exact ⟨rfl, Below.then hb1 hb2⟩
theorem tab_below {w w' : World} (h : Lib.TabIs Tryz.prog w "internal/strconv.uint64pow10" .u64 Lib.pow10Tab) (hb : Below w.heap.size w w') : Lib.TabIs Tryz.prog w' "internal/strconv.uint64pow10" .u64 Lib.pow10Tab :=
  Joins.tab_stays (show Tryz.prog.globalNamed "internal/strconv.uint64pow10" = some 9 by kernel_rfl) h hb (Nat.le_refl _)
end Go.Proofs.YthkkfldmoflfaaaGreatDoor
