/- Several texts, laid as one. -/
import Derived.Test.YthkkfldmoflfaaaGreatDoorGbm
import Derived.Test.YthkkfldmoflfaaaGreatDoorGaa
/- xparse's Parse of a text that is past a limit. -/
namespace Go.Proofs.YthkkfldmoflfaaaGreatDoor
open Go.RowKit Go.Maps
set_option maxRecDepth 100000 in
set_option maxHeartbeats 4000000 in
theorem parse_unright (cs : List Nat) (ts : List (Tok × Nat)) (n m c' : Nat) (x : Ex) (s' : PS) (w : World) (hG : EnvG w) (hl : okL cs) (hz : (T cs).size ≤ 512) (hs : scanOf cs = .ok ts) (hlen : ts.length ≤ 512) (hn : n ≤ 90001) (hp : exprP numP n 0 (ps0 ts) = .ok x s') (hl' : s'.left = []) (hd : s'.dp ≤ 32) (hx : smallX x = true) (hr : jRight flX m 0 0 x = some (false, c')) :
    Calls Tryz.prog 6 #[.string (T cs)] w (outPN w 6) := by
  obtain ⟨wa, e0⟩ : ∃ wa, w.alloc expr0 = wa := ⟨_, rfl⟩
  have hb0 : Below w.heap.size w wa := by rw [← e0]; exact (Below.refl _ _).alloc (Nat.le_refl _) _
  have hr0 : wa.heap[w.heap.size]? = some expr0 := by rw [← e0]; exact palloc_new _ _
  have hS := scan_any cs wa hl hz (hG.below hb0).lex
  rw [hs] at hS
  have HS := hide hS
  have HPV := hide (fun w1 v (h : OwnL w1 wa.heap.size v ts) => pv_any (w := wa) hl hz hs hlen h)
  have HG := hide hG
  have HN := hide hn
  have HP := hide hp
  have HL := hide hl'
  have HD := hide hd
  have HX := hide hx
  have HR := hide hr
  have HB0 := hide hb0
  have HR0 := hide hr0
  have HA := hide (Array.getElem?_eq_some_iff.1 hr0).1
  clear hS hG hl hz hs hlen hn hp hl' hd hx hr hb0 hr0
  go_enter Tryz.func6, Tryz.ntmps6
  go_wp2_with fail
  refine (unhide HS).mono ?_
  rintro e w1 ⟨⟨v, rfl, hown⟩, hb1⟩
  obtain ⟨ag, cap, rfl, hpv⟩ := unhide HPV w1 v hown
  have hb2 : Below w1.heap.size w1 (w1.alloc (.cells #[.slice ag ts.length cap, .int .i64 0, .int .i64 0] 48)) := (Below.refl _ _).alloc (Nat.le_refl _) _
  obtain ⟨W2, e2⟩ : ∃ W2, w1.alloc (.cells #[.slice ag ts.length cap, .int .i64 0, .int .i64 0] 48) = W2 := ⟨_, rfl⟩
  rw [e2] at hpv hb2
  have hw2 : Below w.heap.size w W2 := Below.then (unhide HB0) (Below.then hb1 hb2)
  have hlo : w.heap.size < w1.heap.size := Nat.lt_of_lt_of_le (unhide HA) hb1.size
  have hQ : PQ w W2 w1.heap.size (ps0 ts) := ⟨hpv, Nat.le_of_lt hlo, hw2⟩
  have HW := hide (pwhole_ok w (unhide HG) n (unhide HN) w1.heap.size (ps0 ts) W2 x s' hQ (unhide HP) (unhide HL))
  have HB2 := hide hw2
  have HLO := hide hlo
  have HPL := hide hpv.lt
  have HR2 : Hid (W2.heap[w.heap.size]? = some expr0) := hide (blockK (Kq.of (S := fun _ => False) (Below.then hb1 hb2)) (unhide HR0) (fun h => h))
  generalize hq : w1.heap.size = p at HW HLO HPL
  have HPW := hide hq
  clear hown hpv hb1 hb2 hQ HS HPV HP hw2 hlo
  subst e2
  go_wp2_with fail
  refine (unhide HW).mono ?_
  generalize w1.alloc (.cells #[.slice ag ts.length cap, .int .i64 0, .int .i64 0] 48) = W2 at *
  rintro e w3 ⟨al, c, rfl, hX⟩
  have hb4 : Below w3.heap.size w3 (w3.alloc (oneB x (.slice al x.kids.length c))) := (Below.refl _ _).alloc (Nat.le_refl _) _
  have hq4 := palloc_new w3 (oneB x (.slice al x.kids.length c))
  obtain ⟨W4, e4⟩ : ∃ W4, w3.alloc (oneB x (.slice al x.kids.length c)) = W4 := ⟨_, rfl⟩
  rw [e4] at hb4 hq4
  obtain ⟨_, _, vl, hpb, _⟩ := hX.pv.below hb4
  have c2 : W4.cell? ⟨p, 2, none⟩ = some (.int .i64 (s'.dp : Nat)) := pcell hpb 2
  have n2 : decide ((32 : Int) < ((s'.dp : Nat) : Int)) = false := decide_eq_false (by have := unhide HD; omega)
  have hx4 := hX.ex.kept (Kq.of (S := fun _ => False) hb4) (fun _ _ _ h => h)
  have hk4 : Kq (fun j => j = p) W2 W4 := hX.kq.andThen (Kq.of (S := fun j => j = p) hb4) (fun _ _ h => h)
  have hbw : Below w.heap.size w W4 := Kq.fresh ((Kq.of (S := fun j => j = p) (unhide HB2)).andThen hk4 (fun _ _ h => h)) (fun j hj => by have := unhide HLO; omega)
  have HR4 : Hid (W4.heap[w.heap.size]? = some expr0) := hide (blockK hk4 (unhide HR2) (by have := unhide HLO; omega))
  have HRI := hide (pright_no w (unhide HG) m c' x al c W4 _ hbw (unhide HX) hx4 (unhide HR))
  have hsz : w.heap.size < W2.heap.size := (Array.getElem?_eq_some_iff.1 (unhide HR2)).1
  have HX4 := hide (hx4.mono (S' := fun j => w.heap.size < j) (fun j hj => Nat.lt_of_lt_of_le hsz hj) (fun _ _ _ h => h))
  have HBW := hide hbw
  have HQ4 := hide hq4
  generalize hq3 : w3.heap.size = q at hq4 HQ4
  obtain ⟨a0, a1, a2, a3, a4, a5, a6⟩ := var_cells hq4
  clear hb4 hX hpb hx4 hbw hsz hq4 hk4
  go_wp2_with fail
  refine (unhide HRI).mono ?_
  rintro e w5 ⟨rfl, hb5⟩
  have hq5 := blockK (Kq.of (S := fun _ => False) hb5) (unhide HQ4) (fun h => h)
  have hr5 := blockK (Kq.of (S := fun _ => False) hb5) (unhide HR4) (fun h => h)
  have HX5 := hide ((unhide HX4).kept (Kq.of (S := fun _ => False) hb5) (fun _ _ _ h => h))
  have HB5 := hide (Below.then (unhide HBW) hb5)
  clear a0 a1 a2 a3 a4 a5 a6 c2 hb5
  obtain ⟨a0, a1, a2, a3, a4, a5, a6⟩ := var_cells hq5
  have HR5 := hide hr5
  generalize hq0 : w.heap.size = q0 at HR5 hr5 ⊢
  have HQ0 := hide hq0
  obtain ⟨r0, r1, r2, r3, r4, r5, r6⟩ := var_cells hr5
  obtain ⟨o0, o1, o2, o3, o4, o5, o6⟩ := var_opens hr5
  clear hq5 hr5
  go_wp2_with fail
  change bodyPost _ _ _ _ _ (put7 w5 q0 noX (.slice none 0 0))
  have hV := put7_var (unhide HR5) noX (.slice none 0 0)
  have hk := put7_kq w5 q0 noX (.slice none 0 0)
  have hb9 : Below w.heap.size w (put7 w5 q0 noX (.slice none 0 0)) := Kq.fresh ((Kq.of (S := fun j => j = q0) (unhide HB5)).andThen hk (fun _ _ h => h)) (fun j hj => by have := unhide HQ0; omega)
  obtain ⟨W9, e9⟩ : ∃ W9, put7 w5 q0 noX (.slice none 0 0) = W9 := ⟨_, rfl⟩
  rw [e9]
  rw [e9] at hV hb9
  obtain ⟨b0, b1, b2, b3, b4, b5, b6⟩ := var_cells hV
  have HB9 := hide hb9
  clear hV hb9 e9 a0 a1 a2 a3 a4 a5 a6 r0 r1 r2 r3 r4 r5 r6
  refine bodyPost_ret (v := .tuple #[exAgg noX (.slice none 0 0), .int .i64 6]) (by simp [results, Tryz.results6, go_sem, b0, b1, b2, b3, b4, b5, b6]) rfl ?_
  exact ⟨rfl, unhide HB9⟩
set_option maxRecDepth 100000 in
set_option maxHeartbeats 4000000 in
theorem parse_deep (cs : List Nat) (ts : List (Tok × Nat)) (n : Nat) (x : Ex) (s' : PS) (w : World) (hG : EnvG w) (hl : okL cs) (hz : (T cs).size ≤ 512) (hs : scanOf cs = .ok ts) (hlen : ts.length ≤ 512) (hn : n ≤ 90001) (hp : exprP numP n 0 (ps0 ts) = .ok x s') (hl' : s'.left = []) (hd : 32 < s'.dp) :
    Calls Tryz.prog 6 #[.string (T cs)] w (outPN w 6) := by
  obtain ⟨wa, e0⟩ : ∃ wa, w.alloc expr0 = wa := ⟨_, rfl⟩
  have hb0 : Below w.heap.size w wa := by rw [← e0]; exact (Below.refl _ _).alloc (Nat.le_refl _) _
  have hr0 : wa.heap[w.heap.size]? = some expr0 := by rw [← e0]; exact palloc_new _ _
  have hS := scan_any cs wa hl hz (hG.below hb0).lex
  rw [hs] at hS
  have HS := hide hS
  have HPV := hide (fun w1 v (h : OwnL w1 wa.heap.size v ts) => pv_any (w := wa) hl hz hs hlen h)
  have HG := hide hG
  have HN := hide hn
  have HP := hide hp
  have HL := hide hl'
  have HD := hide hd
  have HB0 := hide hb0
  have HR0 := hide hr0
  have HA := hide (Array.getElem?_eq_some_iff.1 hr0).1
  clear hS hG hl hz hs hlen hn hp hl' hd hb0 hr0
  go_enter Tryz.func6, Tryz.ntmps6
  go_wp2_with fail
  refine (unhide HS).mono ?_
  rintro e w1 ⟨⟨v, rfl, hown⟩, hb1⟩
  obtain ⟨ag, cap, rfl, hpv⟩ := unhide HPV w1 v hown
  have hb2 : Below w1.heap.size w1 (w1.alloc (.cells #[.slice ag ts.length cap, .int .i64 0, .int .i64 0] 48)) := (Below.refl _ _).alloc (Nat.le_refl _) _
  obtain ⟨W2, e2⟩ : ∃ W2, w1.alloc (.cells #[.slice ag ts.length cap, .int .i64 0, .int .i64 0] 48) = W2 := ⟨_, rfl⟩
  rw [e2] at hpv hb2
  have hw2 : Below w.heap.size w W2 := Below.then (unhide HB0) (Below.then hb1 hb2)
  have hlo : w.heap.size < w1.heap.size := Nat.lt_of_lt_of_le (unhide HA) hb1.size
  have hQ : PQ w W2 w1.heap.size (ps0 ts) := ⟨hpv, Nat.le_of_lt hlo, hw2⟩
  have HW := hide (pwhole_ok w (unhide HG) n (unhide HN) w1.heap.size (ps0 ts) W2 x s' hQ (unhide HP) (unhide HL))
  have HB2 := hide hw2
  have HLO := hide hlo
  have HPL := hide hpv.lt
  have HR2 : Hid (W2.heap[w.heap.size]? = some expr0) := hide (blockK (Kq.of (S := fun _ => False) (Below.then hb1 hb2)) (unhide HR0) (fun h => h))
  generalize hq : w1.heap.size = p at HW HLO HPL
  have HPW := hide hq
  clear hown hpv hb1 hb2 hQ HS HPV HP hw2 hlo
  subst e2
  go_wp2_with fail
  refine (unhide HW).mono ?_
  generalize w1.alloc (.cells #[.slice ag ts.length cap, .int .i64 0, .int .i64 0] 48) = W2 at *
  rintro e w3 ⟨al, c, rfl, hX⟩
  have hb4 : Below w3.heap.size w3 (w3.alloc (oneB x (.slice al x.kids.length c))) := (Below.refl _ _).alloc (Nat.le_refl _) _
  have hq4 := palloc_new w3 (oneB x (.slice al x.kids.length c))
  obtain ⟨w5, e4⟩ : ∃ w5, w3.alloc (oneB x (.slice al x.kids.length c)) = w5 := ⟨_, rfl⟩
  rw [e4] at hb4 hq4
  obtain ⟨_, _, vl, hpb, _⟩ := hX.pv.below hb4
  have c2 : w5.cell? ⟨p, 2, none⟩ = some (.int .i64 (s'.dp : Nat)) := pcell hpb 2
  have n2 : (32 : Int) < ((s'.dp : Nat) : Int) := by have := unhide HD; omega
  have hk4 : Kq (fun j => j = p) W2 w5 := hX.kq.andThen (Kq.of (S := fun j => j = p) hb4) (fun _ _ h => h)
  have hbw : Below w.heap.size w w5 := Kq.fresh ((Kq.of (S := fun j => j = p) (unhide HB2)).andThen hk4 (fun _ _ h => h)) (fun j hj => by have := unhide HLO; omega)
  have HR4 : Hid (w5.heap[w.heap.size]? = some expr0) := hide (blockK hk4 (unhide HR2) (by have := unhide HLO; omega))
  have hsz : w.heap.size < W2.heap.size := (Array.getElem?_eq_some_iff.1 (unhide HR2)).1
  have HB5 := hide hbw
  have hr5 := unhide HR4
  have HQ4 := hide hq4
  generalize hq3 : w3.heap.size = q at hq4 HQ4
  obtain ⟨a0, a1, a2, a3, a4, a5, a6⟩ := var_cells hq4
  clear hb4 hX hpb hbw hsz hq4 hk4
  have HR5 := hide hr5
  generalize hq0 : w.heap.size = q0 at HR5 hr5 ⊢
  have HQ0 := hide hq0
  obtain ⟨r0, r1, r2, r3, r4, r5, r6⟩ := var_cells hr5
  obtain ⟨o0, o1, o2, o3, o4, o5, o6⟩ := var_opens hr5
  clear hr5
  go_wp2_with fail
  change bodyPost _ _ _ _ _ (put7 w5 q0 noX (.slice none 0 0))
  have hV := put7_var (unhide HR5) noX (.slice none 0 0)
  have hk := put7_kq w5 q0 noX (.slice none 0 0)
  have hb9 : Below w.heap.size w (put7 w5 q0 noX (.slice none 0 0)) := Kq.fresh ((Kq.of (S := fun j => j = q0) (unhide HB5)).andThen hk (fun _ _ h => h)) (fun j hj => by have := unhide HQ0; omega)
  obtain ⟨W9, e9⟩ : ∃ W9, put7 w5 q0 noX (.slice none 0 0) = W9 := ⟨_, rfl⟩
  rw [e9]
  rw [e9] at hV hb9
  obtain ⟨b0, b1, b2, b3, b4, b5, b6⟩ := var_cells hV
  have HB9 := hide hb9
  clear hV hb9 e9 a0 a1 a2 a3 a4 a5 a6 r0 r1 r2 r3 r4 r5 r6
  refine bodyPost_ret (v := .tuple #[exAgg noX (.slice none 0 0), .int .i64 6]) (by simp [results, Tryz.results6, go_sem, b0, b1, b2, b3, b4, b5, b6]) rfl ?_
  exact ⟨rfl, unhide HB9⟩
end Go.Proofs.YthkkfldmoflfaaaGreatDoor
/- What the parser finds is small, where its tokens are. -/
namespace Go.Proofs.YthkkfldmoflfaaaGreatDoor
/-- The tokens' texts are small. -/
def Tk (s : PS) : Prop := ∀ t ∈ s.left, t.2.length ≤ 1000
def Sm (r : PR Ex) : Prop := ∀ x s', r = .ok x s' → smallX x = true ∧ Tk s'
def SmK (r : PR (List Ex)) : Prop := ∀ ks s', r = .ok ks s' → smallKs ks = true ∧ Tk s'
theorem Sm.out : Sm .out := fun _ _ h => by cases h
theorem Sm.fail : Sm .fail := fun _ _ h => by cases h
theorem Sm.ok {x : Ex} {s : PS} (h : smallX x = true) (hs : Tk s) : Sm (.ok x s) := fun _ _ e => by cases e; exact ⟨h, hs⟩
theorem SmK.out : SmK .out := fun _ _ h => by cases h
theorem SmK.fail : SmK .fail := fun _ _ h => by cases h
theorem SmK.ok {x : List Ex} {s : PS} (h : smallKs x = true) (hs : Tk s) : SmK (.ok x s) := fun _ _ e => by cases e; exact ⟨h, hs⟩
theorem Sm.bind {r : PR Ex} {f : Ex → PS → PR Ex} (h : Sm r) (hf : ∀ a s', smallX a = true → Tk s' → Sm (f a s')) : Sm (r.bind f) := by
  cases r with
  | out => exact Sm.out
  | fail => exact Sm.fail
  | ok a s' => exact hf a s' (h a s' rfl).1 (h a s' rfl).2
theorem Sm.bindK {r : PR (List Ex)} {f : List Ex → PS → PR Ex} (h : SmK r) (hf : ∀ a s', smallKs a = true → Tk s' → Sm (f a s')) : Sm (r.bind f) := by
  cases r with
  | out => exact Sm.out
  | fail => exact Sm.fail
  | ok a s' => exact hf a s' (h a s' rfl).1 (h a s' rfl).2
theorem SmK.bind {r : PR Ex} {f : Ex → PS → PR (List Ex)} (h : Sm r) (hf : ∀ a s', smallX a = true → Tk s' → SmK (f a s')) : SmK (r.bind f) := by
  cases r with
  | out => exact SmK.out
  | fail => exact SmK.fail
  | ok a s' => exact hf a s' (h a s' rfl).1 (h a s' rfl).2
theorem Tk.pop {s : PS} (h : Tk s) : Tk s.pop := fun t ht => h t (List.mem_of_mem_tail ht)
theorem Tk.headS {s : PS} (h : Tk s) : (headT s).length ≤ 1000 := by
  unfold headT
  cases hl : s.left with
  | nil => exact Nat.zero_le _
  | cons x r => exact h x (by rw [hl]; simp)
theorem small_mk {o a t : Nat} {n : Int} {tt : List Nat} {ks : List Ex} (h1 : tt.length ≤ 1000) (h2 : a ≤ 1000) (h3 : t ≤ 1000) (h4 : smallKs ks = true) : smallX (.mk o tt n a t ks) = true := by
  rw [smallX, h4, decide_eq_true h1, decide_eq_true h2, decide_eq_true h3]
  rfl
theorem small_app : ∀ {ks ls : List Ex}, smallKs ks = true → smallKs ls = true → smallKs (ks ++ ls) = true
  | [], _, _, h => h
  | k :: ks, ls, h1, h2 => by
    obtain ⟨h3, h4⟩ := smallKs.head h1
    rw [List.cons_append, smallKs, h3, small_app h4 h2]
    rfl
theorem small_one {x : Ex} (h : smallX x = true) : smallKs [x] = true := by
  rw [smallKs, h, smallKs]
  rfl
theorem small_cons {x : Ex} {ks : List Ex} (h : smallX x = true) (h2 : smallKs ks = true) : smallKs (x :: ks) = true := by
  rw [smallKs, h, h2]
  rfl
theorem small_nil : smallKs [] = true := by rw [smallKs]
theorem small_top : smallX topX = true := small_mk (by simp) (by omega) (by omega) small_nil
theorem small_no : smallX noX = true := small_mk (by simp) (by omega) (by omega) small_nil
theorem small_below : smallX belowX = true := small_mk (by simp) (by omega) (by omega) small_nil
theorem axisNo_small {t : List Nat} {a : Nat} (h : axisNo t = some a) : a ≤ 1000 := by
  have := (List.findIdx?_eq_some_iff_findIdx_eq.1 h).1
  have h2 : axisL.length = 12 := rfl
  omega
theorem typeNo_small {t : List Nat} {a : Nat} (h : typeNo t = some a) : a ≤ 4 := by
  have := (List.findIdx?_eq_some_iff_findIdx_eq.1 h).1
  have h2 : typeL.length = 4 := rfl
  omega
theorem axisP_small {s s' : PS} {a : Nat} (ht : Tk s) (h : axisP s = some (a, s')) : a ≤ 1000 ∧ Tk s' := by
  unfold axisP at h
  split at h
  · cases h; exact ⟨by omega, ht.pop⟩
  · split at h
    · split at h
      · cases hx : axisNo (headT s) with
        | none => rw [hx] at h; cases h
        | some k => rw [hx] at h; cases h; exact ⟨axisNo_small hx, ht.pop.pop⟩
      · cases h
    · cases h; exact ⟨by omega, ht⟩
theorem typeP_small {s s' : PS} {a : Nat} {t : List Nat} (ht : Tk s) (h : typeP s = some (a, t, s')) : a ≤ 1000 ∧ t.length ≤ 1000 ∧ Tk s' := by
  unfold typeP at h
  split at h
  · split at h
    · cases h
    · rename_i k hk
      have := typeNo_small hk
      split at h
      · split at h
        · split at h
          · cases h; exact ⟨by omega, ht.pop.pop.headS, ht.pop.pop.pop.pop⟩
          · cases h
        · split at h
          · cases h; exact ⟨by omega, by simp, ht.pop.pop.pop⟩
          · cases h
      · cases h
  · cases h
theorem testP_small {s s' : PS} {a : Nat} {t : List Nat} (ht : Tk s) (h : testP s = some (a, t, s')) : a ≤ 1000 ∧ t.length ≤ 1000 ∧ Tk s' := by
  unfold testP at h
  have h0 := ht.headS
  split at h
  · split at h
    · cases h; exact ⟨by omega, by simp, ht.pop⟩
    · split at h
      · cases h; exact ⟨by omega, by simp only [List.length_dropLast]; omega, ht.pop⟩
      · cases h; exact ⟨by omega, h0, ht.pop⟩
  · exact typeP_small ht h
theorem small_all (num : List Nat → Option Int) : ∀ n, (∀ g s, Tk s → Sm (exprP num n g s)) ∧ (∀ g e s, smallX e = true → Tk s → Sm (opsP num n g e s)) ∧ (∀ s, Tk s → Sm (negP num n s)) ∧ (∀ s, Tk s → Sm (pathP num n s)) ∧ (∀ ks s, smallKs ks = true → Tk s → SmK (moreP num n ks s)) ∧ (∀ s, Tk s → Sm (stepP num n s)) ∧ (∀ ks s, smallKs ks = true → Tk s → SmK (predsP num n ks s)) ∧ (∀ s, Tk s → Sm (filtP num n s)) ∧ (∀ s, Tk s → Sm (primP num n s)) ∧ (∀ s, Tk s → Sm (brP num n s)) ∧ (∀ s, Tk s → SmK (argsP num n s)) ∧ (∀ ks s, smallKs ks = true → Tk s → SmK (argsGoP num n ks s))
  | 0 => by
    refine ⟨?_, ?_, ?_, ?_, ?_, ?_, ?_, ?_, ?_, ?_, ?_, ?_⟩ <;> intros <;> simp only [exprP, opsP, negP, pathP, moreP, stepP, predsP, filtP, primP, brP, argsP, argsGoP] <;> first | exact Sm.out | exact SmK.out
  | n + 1 => by
    obtain ⟨hE, hO, hN, hP, hM, hS, hQ, hF, hR, hB, hA, hG⟩ := small_all num n
    have leaf : ∀ {o a t : Nat} {v : Int} {ks : List Ex}, a ≤ 1000 → t ≤ 1000 → smallKs ks = true → smallX (.mk o [] v a t ks) = true := fun h1 h2 h3 => small_mk (by simp) h1 h2 h3
    refine ⟨?_, ?_, ?_, ?_, ?_, ?_, ?_, ?_, ?_, ?_, ?_, ?_⟩
    · intro g s h
      rw [exprP]
      split
      · exact hN s h
      · split
        · exact hP s h
        · exact (hE _ s h).bind fun a s' h1 h2 => hO _ _ s' h1 h2
    · intro g e s he h
      rw [opsP]
      split
      · exact Sm.ok he h
      · exact (hE _ s.pop h.pop).bind fun a s' h1 h2 => hO _ _ s' (leaf (by omega) (by omega) (small_cons he (small_one h1))) h2
    · intro s h
      rw [negP]
      split
      · exact (hN s.pop h.pop).bind fun a s' h1 h2 => Sm.ok (leaf (by omega) (by omega) (small_one h1)) h2
      · exact hE _ s h
    · intro s h
      rw [pathP]
      split
      · split
        · exact (hS s.pop h.pop).bind fun a s' h1 h2 => Sm.bindK (hM _ s' (small_cons small_top (small_one h1)) h2) fun b s2 h3 h4 => Sm.ok (leaf (by omega) (by omega) h3) h4
        · exact Sm.ok (leaf (by omega) (by omega) (small_one small_top)) h.pop
      · split
        · exact (hS s.pop h.pop).bind fun a s' h1 h2 => Sm.bindK (hM _ s' (small_cons small_top (small_cons small_below (small_one h1))) h2) fun b s2 h3 h4 => Sm.ok (leaf (by omega) (by omega) h3) h4
        · split
          · exact (hS s h).bind fun a s' h1 h2 => Sm.bindK (hM _ s' (small_cons small_no (small_one h1)) h2) fun b s2 h3 h4 => Sm.ok (leaf (by omega) (by omega) h3) h4
          · refine (hF s h).bind fun a s' h1 h2 => Sm.bindK (hM _ s' (small_one h1) h2) fun b s2 h3 h4 => Sm.ok ?_ h4
            split
            · cases b with
              | nil => exact small_no
              | cons k ks => exact (smallKs.head h3).1
            · exact leaf (by omega) (by omega) h3
    · intro ks s hk h
      rw [moreP]
      split
      · exact SmK.bind (hS s.pop h.pop) fun a s' h1 h2 => hM _ s' (small_app hk (small_one h1)) h2
      · split
        · exact SmK.bind (hS s.pop h.pop) fun a s' h1 h2 => hM _ s' (small_app (small_app hk (small_one small_below)) (small_one h1)) h2
        · exact SmK.ok hk h
    · intro s h
      rw [stepP]
      split
      · exact Sm.ok (leaf (by omega) (by omega) small_nil) h.pop
      · split
        · exact Sm.ok (leaf (by omega) (by omega) small_nil) h.pop
        · split
          · exact Sm.fail
          · rename_i a s1 h1
            split
            · exact Sm.fail
            · rename_i t tt s2 h2
              obtain ⟨a1, a2⟩ := axisP_small h h1
              obtain ⟨b1, b2, b3⟩ := testP_small a2 h2
              exact Sm.bindK (hQ _ s2 small_nil b3) fun b s3 h3 h4 => Sm.ok (small_mk b2 a1 b1 h3) h4
    · intro ks s hk h
      rw [predsP]
      split
      · refine SmK.bind (hE _ s.pop h.pop) fun a s' h1 h2 => ?_
        split
        · exact hQ _ s'.pop (small_app hk (small_one h1)) h2.pop
        · exact SmK.fail
      · exact SmK.ok hk h
    · intro s h
      rw [filtP]
      refine (hR s h).bind fun a s' h1 h2 => ?_
      split
      · obtain ⟨p1, p2, p3⟩ := smallX.parts h1
        exact Sm.bindK (hQ _ s' (smallX.kids h1) h2) fun b s3 h3 h4 => Sm.ok (small_mk p1 p2 p3 h3) h4
      · refine Sm.bindK (hQ _ s' (small_one h1) h2) fun b s3 h3 h4 => Sm.ok ?_ h4
        split
        · exact h1
        · exact leaf (by omega) (by omega) h3
    · intro s h
      rw [primP]
      split
      · exact hB s.pop h.pop
      · split
        · split
          · exact Sm.fail
          · exact Sm.ok (leaf (by omega) (by omega) small_nil) h.pop
        · split
          · exact Sm.ok (small_mk h.headS (by omega) (by omega) small_nil) h.pop
          · split
            · exact Sm.ok (small_mk h.headS (by omega) (by omega) small_nil) h.pop
            · split
              · exact Sm.bindK (hA s.pop h.pop) fun b s3 h3 h4 => Sm.ok (small_mk h.headS (by omega) (by omega) h3) h4
              · exact Sm.fail
    · intro s h
      rw [brP]
      refine (hE 0 ⟨s.left, s.opn + 1, max s.dp (s.opn + 1)⟩ h).bind fun a s' h1 h2 => ?_
      split
      · exact Sm.ok h1 h2.pop
      · exact Sm.fail
    · intro s h
      rw [argsP]
      split
      · split
        · exact SmK.ok small_nil h.pop.pop
        · exact hG _ s.pop small_nil h.pop
      · exact SmK.fail
    · intro ks s hk h
      rw [argsGoP]
      refine SmK.bind (hE _ s h) fun a s' h1 h2 => ?_
      split
      · exact hG _ s'.pop (small_app hk (small_one h1)) h2.pop
      · split
        · exact SmK.ok (small_app hk (small_one h1)) h2.pop
        · exact SmK.fail
end Go.Proofs.YthkkfldmoflfaaaGreatDoor
