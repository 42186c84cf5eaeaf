/- Several texts, laid as one. -/
import Derived.Test.YthkkfldmoflfaaaGreatDoorGaw
import Derived.Test.YthkkfldmoflfaaaGreatDoorGaz
import Derived.Test.YthkkfldmoflfaaaGreatDoorGaa
/- A primary: xparse's primary. -/
namespace Go.Proofs.YthkkfldmoflfaaaGreatDoor
open Go.RowKit Go.Maps
theorem head_len {k : Nat} {t : List Nat} {s : PS} (h : headIs k t s = true) : s.pop.left.length + 1 = s.left.length := by
  unfold headIs at h
  unfold PS.pop
  cases hl : s.left with
  | nil => rw [hl] at h; cases h
  | cons x r => simp
set_option maxRecDepth 100000 in
set_option maxHeartbeats 4000000 in
theorem pprim_step (W0 : World) (n : Nat) (hG : EnvG W0) (hB : BrC numP W0 n) (hA : ArgsC numP W0 n) : PrimC numP W0 (n + 1) := by
  intro p s w x s' hQ hr
  have HB := hide ((Below.refl w.heap.size w).alloc (Nat.le_refl _) expr0)
  have HPL := hide hQ.pv.lt
  have HQ := hide (hQ.alloc expr0)
  have HR0 := hide (palloc_new w expr0)
  have HG := hide hG
  have HBR := hide hB
  have HAR := hide hA
  rw [primP] at hr
  clear hQ hG hB hA
  cases h1 : headIs 9 [40] s with
  | true =>
    rw [h1, if_pos rfl] at hr
    go_enter Tryz.func113, Tryz.ntmps113
    go_wp2_with fail
    refine (psign_at (unhide HQ).pv (t := [40]) (okL_p rfl) rfl h1).mono ?_
    rintro e w1 ⟨rfl, r1, r2⟩
    have HQ1 : Hid (PQ W0 w1 p s.pop) := hide ((unhide HQ).go r2 r1)
    have HK1 := hide r2
    clear r1 r2
    have HC := hide ((unhide HBR) p s.pop w1 x s' (unhide HQ1) (by have h5 := head_len h1; have h6 := (unhide HQ).pv.1; have h7 : s.pop.opn = s.opn := rfl; omega) hr)
    go_wp2_with fail
    refine (unhide HC).mono ?_
    rintro e w2 ⟨al, c, rfl, r2⟩
    have HKW := hide ((Kq.of (S := fun j => j = p) (unhide HB)).andThen (unhide HK1) (fun _ _ h => h))
    have hq1 := blockK r2.kq (blockK (unhide HK1) (unhide HR0) (by have := unhide HPL; omega)) (by have := unhide HPL; omega)
    have hX := XOk.put2 r2 (q := w.heap.size) (unhide HKW) (Nat.le_refl _) (Nat.lt_of_lt_of_le (alloc_lt9 w expr0) (unhide HK1).size) (unhide HPL)
    generalize hq : w.heap.size = q at hq1 hX ⊢
    have HQ1 := hide hq1
    have HXX := hide hX
    obtain ⟨a0, a1, a2, a3, a4, a5, a6⟩ := var_cells hq1
    obtain ⟨o0, o1, o2, o3, o4, o5, o6⟩ := var_opens hq1
    clear r2 hq1 hX hq
    go_wp2_with fail
    have hV := put7_var (unhide HQ1) (x) (.slice al x.kids.length c)
    have hX : XOk w (put7 w2 q (x) (.slice al x.kids.length c)) p (x) (.slice al x.kids.length c) _ := unhide HXX
    change bodyPost _ _ _ _ _ (put7 w2 q (x) (.slice al x.kids.length c))
    obtain ⟨W9, e9⟩ : ∃ W9, put7 w2 q (x) (.slice al x.kids.length c) = W9 := ⟨_, rfl⟩
    rw [e9]
    rw [e9] at hV hX
    obtain ⟨b0, b1, b2, b3, b4, b5, b6⟩ := var_cells hV
    have HX9 := hide hX
    clear hX hV e9
    refine bodyPost_ret (v := exAgg (x) (.slice al x.kids.length c)) (by simp [results, Tryz.results113, go_sem, b0, b1, b2, b3, b4, b5, b6]) rfl ?_
    exact ⟨_, _, rfl, unhide HX9⟩
  | false =>
    rw [h1, if_neg (by decide)] at hr
    cases h2 : seesK 1 s with
    | true =>
      rw [h2, if_pos rfl] at hr
      cases h6 : numP (headT s) with
      | none => rw [h6] at hr; cases hr
      | some v =>
        rw [h6] at hr
        cases hr
        go_enter Tryz.func113, Tryz.ntmps113
        go_wp2_with fail
        refine (psign_at (unhide HQ).pv (t := [40]) (okL_p rfl) rfl h1).mono ?_
        rintro e w1 ⟨rfl, r1, r2⟩
        have HPV1 : Hid (PV w1 p s) := hide r1
        have HK1 := hide r2
        clear r1 r2
        go_wp2_with fail
        have HZ := hide ((unhide HPV1).headz h2)
        have HT := hide ((unhide HPV1).head h2)
        refine (ptakeAny_yes (k := 1) (unhide HPV1) h2).mono ?_
        rintro e w2 ⟨rfl, r1, r2⟩
        have HPV2 : Hid (PV w2 p s.pop) := hide r1
        have HK2 := hide ((unhide HK1).andThen r2 (fun _ _ h => h))
        clear r1 r2
        have HKW := hide ((Kq.of (S := fun j => j = p) (unhide HB)).andThen (unhide HK2) (fun _ _ h => h))
        have HC := hide (pnumber_any (headT s) v w2 (unhide HZ) ((unhide HG).below ((unhide HQ).belK (unhide HK2))) h6)
        go_wp2_with fail
        refine (unhide HC).mono ?_
        rintro e w3 ⟨rfl, hb⟩
        have hq1 := blockK ((unhide HK2).andThen (Kq.of (S := fun j => j = p) hb) (fun _ _ h => h)) (unhide HR0) (by have := unhide HPL; omega)
        have HPV3 := hide ((unhide HPV2).below hb)
        have HK3 := hide ((unhide HK2).andThen (Kq.of (S := fun j => j = p) hb) (fun _ _ h => h))
        generalize hq : w.heap.size = q at hq1 ⊢
        have HQQ := hide hq
        have HQ1 := hide hq1
        obtain ⟨a0, a1, a2, a3, a4, a5, a6⟩ := var_cells hq1
        obtain ⟨o0, o1, o2, o3, o4, o5, o6⟩ := var_opens hq1
        clear hq1 hq hb HC
        go_wp2_with fail
        have hqq := unhide HQQ
        have hpl := unhide HPL
        have hV := put7_var (unhide HQ1) (.mk 16 [] v 0 0 []) (.slice none 0 0)
        have hX : XOk w (put7 w3 q (.mk 16 [] v 0 0 []) (.slice none 0 0)) p (.mk 16 [] v 0 0 []) (.slice none 0 0) _ := XOk.ret (w := w) (q := q) (B := q + 1) (exV.leaf okL_nil9) (exF.ne (by decide)) (unhide HPV3) ((Kq.of (S := fun j => j = p) (unhide HB)).andThen (unhide HK3) (fun _ _ h => h)) (by omega) (by omega) (by omega)
        change bodyPost _ _ _ _ _ (put7 w3 q (.mk 16 [] v 0 0 []) (.slice none 0 0))
        obtain ⟨W9, e9⟩ : ∃ W9, put7 w3 q (.mk 16 [] v 0 0 []) (.slice none 0 0) = W9 := ⟨_, rfl⟩
        rw [e9]
        rw [e9] at hV hX
        obtain ⟨b0, b1, b2, b3, b4, b5, b6⟩ := var_cells hV
        have HX9 := hide hX
        clear hX hV e9
        refine bodyPost_ret (v := exAgg (.mk 16 [] v 0 0 []) (.slice none 0 0)) (by simp [results, Tryz.results113, go_sem, b0, b1, b2, b3, b4, b5, b6]) rfl ?_
        exact ⟨_, _, rfl, unhide HX9⟩
    | false =>
      rw [h2, if_neg (by decide)] at hr
      cases h3 : seesK 2 s with
      | true =>
        rw [h3, if_pos rfl] at hr
        cases hr
        go_enter Tryz.func113, Tryz.ntmps113
        go_wp2_with fail
        refine (psign_at (unhide HQ).pv (t := [40]) (okL_p rfl) rfl h1).mono ?_
        rintro e w1 ⟨rfl, r1, r2⟩
        have HPV1 : Hid (PV w1 p s) := hide r1
        have HK1 := hide r2
        clear r1 r2
        go_wp2_with fail
        refine (ptakeAny_no (k := 1) (unhide HPV1) h2).mono ?_
        rintro e w2 ⟨rfl, r1, r2⟩
        have HPV2 : Hid (PV w2 p s) := hide r1
        have HK2 := hide ((unhide HK1).andThen r2 (fun _ _ h => h))
        clear r1 r2
        go_wp2_with fail
        have HT := hide ((unhide HPV2).head h3)
        refine (ptakeAny_yes (k := 2) (unhide HPV2) h3).mono ?_
        rintro e w3 ⟨rfl, r1, r2⟩
        have HPV3 : Hid (PV w3 p s.pop) := hide r1
        have HK3 := hide ((unhide HK2).andThen r2 (fun _ _ h => h))
        clear r1 r2
        have hq1 := blockK (unhide HK3) (unhide HR0) (by have := unhide HPL; omega)
        generalize hq : w.heap.size = q at hq1 ⊢
        have HQQ := hide hq
        have HQ1 := hide hq1
        obtain ⟨a0, a1, a2, a3, a4, a5, a6⟩ := var_cells hq1
        obtain ⟨o0, o1, o2, o3, o4, o5, o6⟩ := var_opens hq1
        clear hq1 hq
        go_wp2_with fail
        have hqq := unhide HQQ
        have hpl := unhide HPL
        have hV := put7_var (unhide HQ1) (.mk 17 (headT s) 0 0 0 []) (.slice none 0 0)
        have hX : XOk w (put7 w3 q (.mk 17 (headT s) 0 0 0 []) (.slice none 0 0)) p (.mk 17 (headT s) 0 0 0 []) (.slice none 0 0) _ := XOk.ret (w := w) (q := q) (B := q + 1) (exV.leaf (unhide HT)) (exF.ne (by decide)) (unhide HPV3) ((Kq.of (S := fun j => j = p) (unhide HB)).andThen (unhide HK3) (fun _ _ h => h)) (by omega) (by omega) (by omega)
        change bodyPost _ _ _ _ _ (put7 w3 q (.mk 17 (headT s) 0 0 0 []) (.slice none 0 0))
        obtain ⟨W9, e9⟩ : ∃ W9, put7 w3 q (.mk 17 (headT s) 0 0 0 []) (.slice none 0 0) = W9 := ⟨_, rfl⟩
        rw [e9]
        rw [e9] at hV hX
        obtain ⟨b0, b1, b2, b3, b4, b5, b6⟩ := var_cells hV
        have HX9 := hide hX
        clear hX hV e9
        refine bodyPost_ret (v := exAgg (.mk 17 (headT s) 0 0 0 []) (.slice none 0 0)) (by simp [results, Tryz.results113, go_sem, b0, b1, b2, b3, b4, b5, b6]) rfl ?_
        exact ⟨_, _, rfl, unhide HX9⟩
      | false =>
        rw [h3, if_neg (by decide)] at hr
        cases h4 : seesK 7 s with
        | true =>
          rw [h4, if_pos rfl] at hr
          cases hr
          go_enter Tryz.func113, Tryz.ntmps113
          go_wp2_with fail
          refine (psign_at (unhide HQ).pv (t := [40]) (okL_p rfl) rfl h1).mono ?_
          rintro e w1 ⟨rfl, r1, r2⟩
          have HPV1 : Hid (PV w1 p s) := hide r1
          have HK1 := hide r2
          clear r1 r2
          go_wp2_with fail
          refine (ptakeAny_no (k := 1) (unhide HPV1) h2).mono ?_
          rintro e w2 ⟨rfl, r1, r2⟩
          have HPV2 : Hid (PV w2 p s) := hide r1
          have HK2 := hide ((unhide HK1).andThen r2 (fun _ _ h => h))
          clear r1 r2
          go_wp2_with fail
          refine (ptakeAny_no (k := 2) (unhide HPV2) h3).mono ?_
          rintro e w3 ⟨rfl, r1, r2⟩
          have HPV3 : Hid (PV w3 p s) := hide r1
          have HK3 := hide ((unhide HK2).andThen r2 (fun _ _ h => h))
          clear r1 r2
          go_wp2_with fail
          have HT := hide ((unhide HPV3).head h4)
          refine (ptakeAny_yes (k := 7) (unhide HPV3) h4).mono ?_
          rintro e w4 ⟨rfl, r1, r2⟩
          have HPV4 : Hid (PV w4 p s.pop) := hide r1
          have HK4 := hide ((unhide HK3).andThen r2 (fun _ _ h => h))
          clear r1 r2
          have hq1 := blockK (unhide HK4) (unhide HR0) (by have := unhide HPL; omega)
          generalize hq : w.heap.size = q at hq1 ⊢
          have HQQ := hide hq
          have HQ1 := hide hq1
          obtain ⟨a0, a1, a2, a3, a4, a5, a6⟩ := var_cells hq1
          obtain ⟨o0, o1, o2, o3, o4, o5, o6⟩ := var_opens hq1
          clear hq1 hq
          go_wp2_with fail
          have hqq := unhide HQQ
          have hpl := unhide HPL
          have hV := put7_var (unhide HQ1) (.mk 18 (headT s) 0 0 0 []) (.slice none 0 0)
          have hX : XOk w (put7 w4 q (.mk 18 (headT s) 0 0 0 []) (.slice none 0 0)) p (.mk 18 (headT s) 0 0 0 []) (.slice none 0 0) _ := XOk.ret (w := w) (q := q) (B := q + 1) (exV.leaf (unhide HT)) (exF.ne (by decide)) (unhide HPV4) ((Kq.of (S := fun j => j = p) (unhide HB)).andThen (unhide HK4) (fun _ _ h => h)) (by omega) (by omega) (by omega)
          change bodyPost _ _ _ _ _ (put7 w4 q (.mk 18 (headT s) 0 0 0 []) (.slice none 0 0))
          obtain ⟨W9, e9⟩ : ∃ W9, put7 w4 q (.mk 18 (headT s) 0 0 0 []) (.slice none 0 0) = W9 := ⟨_, rfl⟩
          rw [e9]
          rw [e9] at hV hX
          obtain ⟨b0, b1, b2, b3, b4, b5, b6⟩ := var_cells hV
          have HX9 := hide hX
          clear hX hV e9
          refine bodyPost_ret (v := exAgg (.mk 18 (headT s) 0 0 0 []) (.slice none 0 0)) (by simp [results, Tryz.results113, go_sem, b0, b1, b2, b3, b4, b5, b6]) rfl ?_
          exact ⟨_, _, rfl, unhide HX9⟩
        | false =>
          rw [h4, if_neg (by decide)] at hr
          cases h5 : seesK 4 s with
          | false => rw [h5, if_neg (by decide)] at hr; cases hr
          | true =>
            rw [h5, if_pos rfl] at hr
            cases h6 : argsP numP n s.pop with
            | out => rw [h6, PR.bind_out] at hr; cases hr
            | fail => rw [h6, PR.bind_fail] at hr; cases hr
            | ok ks s3 =>
              rw [h6, PR.bind_ok] at hr
              cases hr
              go_enter Tryz.func113, Tryz.ntmps113
              go_wp2_with fail
              refine (psign_at (unhide HQ).pv (t := [40]) (okL_p rfl) rfl h1).mono ?_
              rintro e w1 ⟨rfl, r1, r2⟩
              have HPV1 : Hid (PV w1 p s) := hide r1
              have HK1 := hide r2
              clear r1 r2
              go_wp2_with fail
              refine (ptakeAny_no (k := 1) (unhide HPV1) h2).mono ?_
              rintro e w2 ⟨rfl, r1, r2⟩
              have HPV2 : Hid (PV w2 p s) := hide r1
              have HK2 := hide ((unhide HK1).andThen r2 (fun _ _ h => h))
              clear r1 r2
              go_wp2_with fail
              refine (ptakeAny_no (k := 2) (unhide HPV2) h3).mono ?_
              rintro e w3 ⟨rfl, r1, r2⟩
              have HPV3 : Hid (PV w3 p s) := hide r1
              have HK3 := hide ((unhide HK2).andThen r2 (fun _ _ h => h))
              clear r1 r2
              go_wp2_with fail
              refine (ptakeAny_no (k := 7) (unhide HPV3) h4).mono ?_
              rintro e w4 ⟨rfl, r1, r2⟩
              have HPV4 : Hid (PV w4 p s) := hide r1
              have HK4 := hide ((unhide HK3).andThen r2 (fun _ _ h => h))
              clear r1 r2
              go_wp2_with fail
              have HT := hide ((unhide HPV4).head h5)
              refine (ptakeAny_yes (k := 4) (unhide HPV4) h5).mono ?_
              rintro e w5 ⟨rfl, r1, r2⟩
              have HPV5 : Hid (PV w5 p s.pop) := hide r1
              have HK5 := hide ((unhide HK4).andThen r2 (fun _ _ h => h))
              clear r1 r2
              have HC := hide ((unhide HAR) p s.pop w5 ks s' ((unhide HQ).go (unhide HK5) (unhide HPV5)) h6)
              go_wp2_with fail
              refine (unhide HC).mono ?_
              rintro e w6 ⟨al, c, rfl, r2⟩
              have HO := hide r2
              have HK6 := hide ((unhide HK5).andThen (r2.kq.more (S' := fun j => j = p) (fun j _ hj => hj.elim id (fun e => by cases e))) (fun _ _ h => h))
              have HPV6 := hide r2.pv
              have HS4 := hide (unhide HK5).size
              clear r2 HC
              have hq1 := blockK (unhide HK6) (unhide HR0) (by have := unhide HPL; omega)
              generalize hq : w.heap.size = q at hq1 ⊢
              have HQQ := hide hq
              have HQ1 := hide hq1
              obtain ⟨a0, a1, a2, a3, a4, a5, a6⟩ := var_cells hq1
              obtain ⟨o0, o1, o2, o3, o4, o5, o6⟩ := var_opens hq1
              clear hq1 hq
              go_wp2_with fail
              have hqq := unhide HQQ
              have hpl := unhide HPL
              have hs4 := unhide HS4
              have hsa := alloc_lt9 w expr0
              obtain ⟨_, _, _, hrow5, _⟩ := (unhide HO).row
              have hV := put7_var (unhide HQ1) (.mk 19 (headT s) 0 0 0 ks) (.slice al ks.length c)
              have hX : XOk w (put7 w6 q (.mk 19 (headT s) 0 0 0 ks) (.slice al ks.length c)) p (.mk 19 (headT s) 0 0 0 ks) (.slice al ks.length c) _ := XOk.ret (w := w) (q := q) (B := q + 1) ((exV.row hrow5 (unhide HT)).mono (S' := fun j => w.heap.size ≤ j ∧ j ≠ q) (fun j hj => ⟨by omega, by omega⟩) (fun _ _ _ h => h)) (exF.ne (by decide)) (unhide HPV6) ((Kq.of (S := fun j => j = p) (unhide HB)).andThen (unhide HK6) (fun _ _ h => h)) (by omega) (by omega) (by omega)
              change bodyPost _ _ _ _ _ (put7 w6 q (.mk 19 (headT s) 0 0 0 ks) (.slice al ks.length c))
              obtain ⟨W9, e9⟩ : ∃ W9, put7 w6 q (.mk 19 (headT s) 0 0 0 ks) (.slice al ks.length c) = W9 := ⟨_, rfl⟩
              rw [e9]
              rw [e9] at hV hX
              obtain ⟨b0, b1, b2, b3, b4, b5, b6⟩ := var_cells hV
              have HX9 := hide hX
              clear hX hV e9
              refine bodyPost_ret (v := exAgg (.mk 19 (headT s) 0 0 0 ks) (.slice al ks.length c)) (by simp [results, Tryz.results113, go_sem, b0, b1, b2, b3, b4, b5, b6]) rfl ?_
              exact ⟨_, _, rfl, unhide HX9⟩
end Go.Proofs.YthkkfldmoflfaaaGreatDoor
/- How many Kids an expression has, by the tokens that it took. -/
namespace Go.Proofs.YthkkfldmoflfaaaGreatDoor
def Kb (r : PR Ex) (c : Nat) : Prop := ∀ x s', r = .ok x s' → x.kids.length + 2 * s'.left.length ≤ c + 3
def Lb (r : PR (List Ex)) (c : Nat) : Prop := ∀ ks s', r = .ok ks s' → ks.length + 2 * s'.left.length ≤ c
theorem Kb.ok {x : Ex} {s : PS} {c : Nat} (h : x.kids.length + 2 * s.left.length ≤ c + 3) : Kb (.ok x s) c := fun _ _ e => by cases e; exact h
theorem Kb.fail {c : Nat} : Kb .fail c := fun _ _ e => by cases e
theorem Kb.out {c : Nat} : Kb .out c := fun _ _ e => by cases e
theorem Lb.ok {x : List Ex} {s : PS} {c : Nat} (h : x.length + 2 * s.left.length ≤ c) : Lb (.ok x s) c := fun _ _ e => by cases e; exact h
theorem Lb.fail {c : Nat} : Lb .fail c := fun _ _ e => by cases e
theorem Lb.out {c : Nat} : Lb .out c := fun _ _ e => by cases e
theorem Kb.bind {α : Type} {r : PR α} {f : α → PS → PR Ex} {c : Nat} (h : ∀ a s', r = .ok a s' → Kb (f a s') c) : Kb (r.bind f) c := by
  cases r with
  | out => exact Kb.out
  | fail => exact Kb.fail
  | ok a s' => exact h a s' rfl
theorem Lb.bind {α : Type} {r : PR α} {f : α → PS → PR (List Ex)} {c : Nat} (h : ∀ a s', r = .ok a s' → Lb (f a s') c) : Lb (r.bind f) c := by
  cases r with
  | out => exact Lb.out
  | fail => exact Lb.fail
  | ok a s' => exact h a s' rfl
theorem Lb.le {r : PR (List Ex)} {c d : Nat} (h : Lb r c) (hc : c ≤ d) : Lb r d := fun a s e => Nat.le_trans (h a s e) hc
theorem Kb.le {r : PR Ex} {c d : Nat} (h : Kb r c) (hc : c ≤ d) : Kb r d := fun a s e => by have := h a s e; omega
/-- Rows only grow: one Kid is the one that was there. -/
theorem more_pre (num : List Nat → Option Int) : ∀ n ks s ks' s', moreP num n ks s = .ok ks' s' → ∃ l, ks' = ks ++ l
  | 0, ks, s, ks', s', h => by rw [moreP] at h; cases h
  | n + 1, ks, s, ks', s', h => by
    rw [moreP] at h
    split at h
    · cases hx : stepP num n s.pop with
      | out => rw [hx] at h; cases h
      | fail => rw [hx] at h; cases h
      | ok a s1 =>
        rw [hx, PR.bind_ok] at h
        obtain ⟨l, rfl⟩ := more_pre num n _ _ _ _ h
        exact ⟨[a] ++ l, by simp⟩
    · split at h
      · cases hx : stepP num n s.pop with
        | out => rw [hx] at h; cases h
        | fail => rw [hx] at h; cases h
        | ok a s1 =>
          rw [hx, PR.bind_ok] at h
          obtain ⟨l, rfl⟩ := more_pre num n _ _ _ _ h
          exact ⟨[belowX] ++ [a] ++ l, by simp⟩
      · cases h
        exact ⟨[], by simp⟩
theorem one_kid (num : List Nat → Option Int) (n : Nat) (a : Ex) (s : PS) (ks : List Ex) (s' : PS) (h : moreP num n [a] s = .ok ks s') (_h1 : ks.length = 1) : ks.headD noX = a := by
  obtain ⟨l, rfl⟩ := more_pre num n _ _ _ _ h
  rfl
theorem kids_all (num : List Nat → Option Int) : ∀ n, (∀ g s, Kb (exprP num n g s) (2 * s.left.length)) ∧ (∀ g e s c, e.kids.length + 2 * s.left.length ≤ c + 3 → 2 * s.left.length ≤ c → Kb (opsP num n g e s) c) ∧ (∀ s, Kb (negP num n s) (2 * s.left.length)) ∧ (∀ s, Kb (pathP num n s) (2 * s.left.length)) ∧ (∀ ks s, Lb (moreP num n ks s) (ks.length + 2 * s.left.length)) ∧ (∀ ks s, Lb (predsP num n ks s) (ks.length + 2 * s.left.length)) ∧ (∀ s, Kb (filtP num n s) (2 * s.left.length)) ∧ (∀ s, Kb (primP num n s) (2 * s.left.length)) ∧ (∀ s, Kb (brP num n s) (2 * s.left.length)) ∧ (∀ s, Lb (argsP num n s) (2 * s.left.length + 1)) ∧ (∀ ks s, Lb (argsGoP num n ks s) (ks.length + 2 * s.left.length + 1))
  | 0 => by
    refine ⟨?_, ?_, ?_, ?_, ?_, ?_, ?_, ?_, ?_, ?_, ?_⟩ <;> intros <;> simp only [exprP, opsP, negP, pathP, moreP, predsP, filtP, primP, brP, argsP, argsGoP] <;> first | exact Kb.out | exact Lb.out
  | n + 1 => by
    obtain ⟨hE, hO, hN, hP, hM, hQ, hF, hR, hB, hA, hG⟩ := kids_all num n
    obtain ⟨pE, _, pN, pP, pM, pS, pQ, pF, pR, pB, pA, pG⟩ := pres_all num n
    have pp : ∀ s : PS, s.pop.left.length ≤ s.left.length := pop_len
    have pq : ∀ {k t} {s : PS}, headIs k t s = true → s.pop.left.length + 1 = s.left.length := fun {k t s} h => by
      unfold headIs at h
      unfold PS.pop
      cases hl : s.left with
      | nil => rw [hl] at h; cases h
      | cons x r => simp
    have pk : ∀ {k} {s : PS}, seesK k s = true → s.pop.left.length + 1 = s.left.length := fun {k s} h => by
      unfold seesK at h
      unfold PS.pop
      cases hl : s.left with
      | nil => rw [hl] at h; cases h
      | cons x r => simp
    refine ⟨?_, ?_, ?_, ?_, ?_, ?_, ?_, ?_, ?_, ?_, ?_⟩
    · intro g s
      rw [exprP]
      split
      · exact hN s
      · split
        · exact hP s
        · exact Kb.bind fun a s' h => hO g a s' _ (hE _ _ a s' h) (by have := (pE _ _ a s' h).2; omega)
    · intro g e s c h1 h2
      rw [opsP]
      split
      · exact Kb.ok h1
      · refine Kb.bind fun a s' h => hO g _ s' _ ?_ ?_
        · have := (pE _ _ a s' h).2
          have := pp s
          show 2 + _ ≤ _
          omega
        · have := (pE _ _ a s' h).2
          have := pp s
          omega
    · intro s
      rw [negP]
      split
      · refine Kb.bind fun a s' h => Kb.ok ?_
        have := (pN _ a s' h).2
        have := pp s
        show 1 + _ ≤ _
        omega
      · exact hE 7 s
    · intro s
      rw [pathP]
      split
      · rename_i h0
        split
        · refine Kb.bind fun a s' h => Kb.bind fun ks s2 h2 => Kb.ok ?_
          have h3 := hM _ s' ks s2 h2
          have := (pS _ a s' h).2
          have := pq h0
          simp at h3
          show ks.length + _ ≤ _
          omega
        · refine Kb.ok ?_
          have := pp s
          show 1 + _ ≤ _
          omega
      · split
        · rename_i h0
          refine Kb.bind fun a s' h => Kb.bind fun ks s2 h2 => Kb.ok ?_
          have h3 := hM _ s' ks s2 h2
          have := (pS _ a s' h).2
          have := pq h0
          simp at h3
          show ks.length + _ ≤ _
          omega
        · split
          · refine Kb.bind fun a s' h => Kb.bind fun ks s2 h2 => Kb.ok ?_
            have h3 := hM _ s' ks s2 h2
            have := (pS _ a s' h).2
            simp at h3
            show ks.length + _ ≤ _
            omega
          · refine Kb.bind fun a s' h => ?_
            have h4 := (pF _ a s' h).2
            have h5 := hF _ a s' h
            refine Kb.bind fun ks s2 h2 => Kb.ok ?_
            have h3 := hM _ s' ks s2 h2
            have h6 := (pM _ _ ks s2 h2).2
            simp at h3
            split
            · rename_i h7
              -- one Kid: the row as it was
              have h8 : ks.headD noX = a := one_kid num n a s' ks s2 h2 h7
              rw [h8]
              omega
            · show ks.length + _ ≤ _
              omega
    · intro ks s
      rw [moreP]
      split
      · rename_i h0
        refine Lb.bind fun a s' h => (hM _ s').le ?_
        have := (pS _ a s' h).2
        have := pq h0
        simp
        omega
      · split
        · rename_i h0
          refine Lb.bind fun a s' h => (hM _ s').le ?_
          have := (pS _ a s' h).2
          have := pq h0
          simp
          omega
        · exact Lb.ok (Nat.le_refl _)
    · intro ks s
      rw [predsP]
      split
      · rename_i h0
        refine Lb.bind fun a s' h => ?_
        split
        · refine (hQ _ s'.pop).le ?_
          have := (pE _ _ a s' h).2
          have := pq h0
          have := pp s'
          simp
          omega
        · exact Lb.fail
      · exact Lb.ok (Nat.le_refl _)
    · intro s
      rw [filtP]
      refine Kb.bind fun a s' h => ?_
      have h4 := (pR _ a s' h).2
      have h5 := hR _ a s' h
      split
      · refine Kb.bind fun ks s2 h2 => Kb.ok ?_
        have h3 := hQ _ s' ks s2 h2
        show ks.length + _ ≤ _
        omega
      · refine Kb.bind fun ks s2 h2 => Kb.ok ?_
        have h3 := hQ _ s' ks s2 h2
        have h6 := (pQ _ _ ks s2 h2).2
        simp at h3
        split
        · omega
        · show ks.length + _ ≤ _
          omega
    · intro s
      rw [primP]
      split
      · refine (hB s.pop).le ?_
        have := pp s
        omega
      · split
        · split
          · exact Kb.fail
          · refine Kb.ok ?_
            have := pp s
            show 0 + _ ≤ _
            omega
        · split
          · refine Kb.ok ?_
            have := pp s
            show 0 + _ ≤ _
            omega
          · split
            · refine Kb.ok ?_
              have := pp s
              show 0 + _ ≤ _
              omega
            · split
              · refine Kb.bind fun a s' h => Kb.ok ?_
                have := hA _ a s' h
                have := pp s
                show a.length + _ ≤ _
                omega
              · exact Kb.fail
    · intro s
      rw [brP]
      refine Kb.bind fun a s' h => ?_
      split
      · refine Kb.ok ?_
        have h3 := hE _ _ a s' h
        simp only [List.length_tail] at h3 ⊢
        omega
      · exact Kb.fail
    · intro s
      rw [argsP]
      split
      · split
        · refine Lb.ok ?_
          have := pp s
          have := pp s.pop
          show 0 + _ ≤ _
          omega
        · refine (hG _ s.pop).le ?_
          have := pp s
          simp
          omega
      · exact Lb.fail
    · intro ks s
      rw [argsGoP]
      refine Lb.bind fun a s' h => ?_
      have := (pE _ _ a s' h).2
      split
      · rename_i h0
        refine (hG _ s'.pop).le ?_
        have := pq h0
        simp
        omega
      · split
        · refine Lb.ok ?_
          have := pp s'
          simp
          omega
        · exact Lb.fail
end Go.Proofs.YthkkfldmoflfaaaGreatDoor
