/- Several texts, laid as one. -/
import Derived.Test.YthkkfldmoflfaaaGreatDoorParV
import Derived.Test.YthkkfldmoflfaaaGreatDoorGbm
import Derived.Test.YthkkfldmoflfaaaGreatDoorLexScanGo
import Derived.Test.YthkkfldmoflfaaaGreatDoorGba
import Derived.Test.YthkkfldmoflfaaaGreatDoorGai
import Derived.Deep.QuietTactic
import Derived.BigQuiet
/- xparse's Parse of a text that is an expression. -/
namespace Go.Proofs.YthkkfldmoflfaaaGreatDoor
open Go.RowKit Go.Maps
theorem scan_formed6 {cs : List Nat} {ts : List (Tok × Nat)} (hl : okL cs) (h : scanOf cs = .ok ts) : ∀ x ∈ ts, okL x.1.text ∧ (T x.1.text).size ≤ (T cs).size := by
  intro x hx
  obtain ⟨i, hi, e⟩ := List.getElem_of_mem hx
  have hx' : ts[i]? = some x := by rw [List.getElem?_eq_getElem hi, e]
  obtain ⟨hf, p, b, r, e, _⟩ := laid_at _ ts [] cs (scan_laid_all h) i x hx'
  rw [List.nil_append] at e
  have hr : okL x.1.raw := by rw [e] at hl; exact okL_right (okL_left (okL_left hl))
  refine ⟨?_, by have := (place_at h hx').1; omega⟩
  obtain ⟨a, c, e2, _⟩ := off_raw hf
  rw [e2] at hr
  exact okL_right (okL_left hr)
/-- Where a parser begins. -/
def ps0 (ts : List (Tok × Nat)) : PS := ⟨ts.map (fun t => (t.1.kind, t.1.text)), 0, 0⟩
/-- A parser of the tokens that were scanned. -/
theorem pv_new {cs : List Nat} {ts : List (Tok × Nat)} {w w1 : World} {v : Value} (hl : okL cs) (hz : (T cs).size ≤ 512) (hs : scanOf cs = .ok ts) (hne : ts ≠ []) (hlen : ts.length ≤ 512) (h : OwnL w1 w.heap.size v ts) :
    ∃ g cap, v = .slice (some ⟨g, 0, none⟩) ts.length cap ∧ PV (w1.alloc (.cells #[v, .int .i64 0, .int .i64 0] 48)) w1.heap.size (ps0 ts) := by
  have hlo : (ps0 ts).left.length = ts.length := by unfold ps0; simp
  rcases own_cells h with ⟨h0, _⟩ | ⟨g, cap, rfl, hg, hlt, hcap, hc⟩
  · exact absurd h0 hne
  · have hcm : cap ≤ 9223372036854775807 := by
      rcases h.2 with ⟨e, _⟩ | ⟨g', cap', cur, e, _, _, _, h5, _⟩
      · cases e
      · cases e
        exact h5
    refine ⟨g, cap, rfl, by rw [hlo]; show 0 + ts.length ≤ 100000; omega, Nat.zero_le _, _, palloc_new _ _, fun x hx => ?_, g, 0, cap, by rw [hlo], by rw [hlo]; exact hcap, hcm, hlt, by simp; omega, fun i x hx => ?_⟩
    · obtain ⟨t, ht, rfl⟩ := List.mem_map.1 hx
      obtain ⟨h1, h2⟩ := scan_formed6 hl hs t ht
      exact ⟨h1, by show (T t.1.text).size ≤ 512; omega⟩
    · have hx' : (ts.map (fun t => (t.1.kind, t.1.text)))[i]? = some x := hx
      rw [List.getElem?_map] at hx'
      obtain ⟨t, ht, rfl⟩ := Option.map_eq_some_iff.1 hx'
      obtain ⟨c0, c1, c2⟩ := hc i t ht
      have hb : Below w1.heap.size w1 (w1.alloc (.cells #[.slice (some ⟨g, 0, none⟩) ts.length cap, .int .i64 0, .int .i64 0] 48)) := (Below.refl _ _).alloc (Nat.le_refl _) _
      exact ⟨by rw [Nat.zero_add]; exact pkept hb c0, by rw [Nat.zero_add]; exact pkept hb c1, _, by rw [Nat.zero_add]; exact pkept hb c2⟩
/-- What Parse leaves, where the text is an expression. -/
def outP6 (w : World) (x : Ex) (e : Ending) (w' : World) : Prop := ∃ al cc, e = .returned (.tuple #[exAgg x (.slice al x.kids.length cc), .int .i64 0]) ∧ exV w' (fun j => w.heap.size ≤ j) x (.slice al x.kids.length cc) ∧ Below w.heap.size w w'
set_option maxRecDepth 100000 in
set_option maxHeartbeats 2000000 in
theorem parse_ok6 (cs : List Nat) (ts : List (Tok × Nat)) (n m c' : Nat) (x : Ex) (s' : PS) (w : World) (hG : EnvG w) (hl : okL cs) (hz : (T cs).size ≤ 512) (hs : scanOf cs = .ok ts) (hne : ts ≠ []) (hlen : ts.length ≤ 512) (hn : n ≤ 90001) (hp : exprP numP n 0 (ps0 ts) = .ok x s') (hl' : s'.left = []) (hd : s'.dp ≤ 32) (hx : smallX x = true) (hr : jRight flX m 0 0 x = some (true, c')) :
    Calls Tryz.prog 6 #[.string (T cs)] w (outP6 w x) := by
  obtain ⟨wa, e0⟩ : ∃ wa, w.alloc expr0 = wa := ⟨_, rfl⟩
  have hb0 : Below w.heap.size w wa := by rw [← e0]; exact (Below.refl _ _).alloc (Nat.le_refl _) _
  have hr0 : wa.heap[w.heap.size]? = some expr0 := by rw [← e0]; exact palloc_new _ _
  have hS := scan_any cs wa hl hz (hG.below hb0).lex
  rw [hs] at hS
  have HS := hide hS
  have HPV := hide (fun w1 v (h : OwnL w1 wa.heap.size v ts) => pv_new (w := wa) hl hz hs hne hlen h)
  have HG := hide hG
  have HN := hide hn
  have HP := hide hp
  have HL := hide hl'
  have HD := hide hd
  have HX := hide hx
  have HR := hide hr
  have HB0 := hide hb0
  have HR0 := hide hr0
  have HA := hide (Array.getElem?_eq_some_iff.1 hr0).1
  clear hS hG hl hz hs hne hlen hn hp hl' hd hx hr hb0 hr0
  go_enter Tryz.func6, Tryz.ntmps6
  go_wp2_with fail
  refine (unhide HS).mono ?_
  rintro e w1 ⟨⟨v, rfl, hown⟩, hb1⟩
  obtain ⟨g, cap, rfl, hpv⟩ := unhide HPV w1 v hown
  have hb2 : Below w1.heap.size w1 (w1.alloc (.cells #[.slice (some ⟨g, 0, none⟩) ts.length cap, .int .i64 0, .int .i64 0] 48)) := (Below.refl _ _).alloc (Nat.le_refl _) _
  obtain ⟨W2, e2⟩ : ∃ W2, w1.alloc (.cells #[.slice (some ⟨g, 0, none⟩) ts.length cap, .int .i64 0, .int .i64 0] 48) = W2 := ⟨_, rfl⟩
  rw [e2] at hpv hb2
  have hw2 : Below w.heap.size w W2 := Below.then (unhide HB0) (Below.then hb1 hb2)
  have hlo : w.heap.size < w1.heap.size := Nat.lt_of_lt_of_le (unhide HA) hb1.size
  have hQ : PQ w W2 w1.heap.size (ps0 ts) := ⟨hpv, Nat.le_of_lt hlo, hw2⟩
  have HW := hide (pwhole_ok w (unhide HG) n (unhide HN) w1.heap.size (ps0 ts) W2 x s' hQ (unhide HP) (unhide HL))
  have HB2 := hide hw2
  have HLO := hide hlo
  have HPL := hide hpv.lt
  have HR2 : Hid (W2.heap[w.heap.size]? = some expr0) := hide (blockK (Kq.of (S := fun _ => False) (Below.then hb1 hb2)) (unhide HR0) (fun h => h))
  generalize hq : w1.heap.size = p at HW HLO HPL
  have HPW := hide hq
  clear hown hpv hb1 hb2 hQ HS HPV HP hw2 hlo
  subst e2
  go_wp2_with fail
  refine (unhide HW).mono ?_
  generalize w1.alloc (.cells #[.slice (some ⟨g, 0, none⟩) ts.length cap, .int .i64 0, .int .i64 0] 48) = W2 at *
  rintro e w3 ⟨al, c, rfl, hX⟩
  have hb4 : Below w3.heap.size w3 (w3.alloc (oneB x (.slice al x.kids.length c))) := (Below.refl _ _).alloc (Nat.le_refl _) _
  have hq4 := palloc_new w3 (oneB x (.slice al x.kids.length c))
  obtain ⟨W4, e4⟩ : ∃ W4, w3.alloc (oneB x (.slice al x.kids.length c)) = W4 := ⟨_, rfl⟩
  rw [e4] at hb4 hq4
  obtain ⟨_, _, vl, hpb, _⟩ := hX.pv.below hb4
  have c2 : W4.cell? ⟨p, 2, none⟩ = some (.int .i64 (s'.dp : Nat)) := pcell hpb 2
  have n2 : decide ((32 : Int) < ((s'.dp : Nat) : Int)) = false := decide_eq_false (by have := unhide HD; omega)
  have hx4 := hX.ex.kept (Kq.of (S := fun _ => False) hb4) (fun _ _ _ h => h)
  have hk4 : Kq (fun j => j = p) W2 W4 := hX.kq.andThen (Kq.of (S := fun j => j = p) hb4) (fun _ _ h => h)
  have hbw : Below w.heap.size w W4 := Kq.fresh ((Kq.of (S := fun j => j = p) (unhide HB2)).andThen hk4 (fun _ _ h => h)) (fun j hj => by have := unhide HLO; omega)
  have HR4 : Hid (W4.heap[w.heap.size]? = some expr0) := hide (blockK hk4 (unhide HR2) (by have := unhide HLO; omega))
  have HRI := hide (pright_ok w (unhide HG) m c' x al c W4 _ hbw (unhide HX) hx4 (unhide HR))
  have hsz : w.heap.size < W2.heap.size := (Array.getElem?_eq_some_iff.1 (unhide HR2)).1
  have HX4 := hide (hx4.mono (S' := fun j => w.heap.size < j) (fun j hj => Nat.lt_of_lt_of_le hsz hj) (fun _ _ _ h => h))
  have HBW := hide hbw
  have HQ4 := hide hq4
  generalize hq3 : w3.heap.size = q at hq4 HQ4
  obtain ⟨a0, a1, a2, a3, a4, a5, a6⟩ := var_cells hq4
  clear hb4 hX hpb hx4 hbw hsz hq4 hk4
  go_wp2_with fail
  refine (unhide HRI).mono ?_
  rintro e w5 ⟨rfl, hb5⟩
  have hq5 := blockK (Kq.of (S := fun _ => False) hb5) (unhide HQ4) (fun h => h)
  have hr5 := blockK (Kq.of (S := fun _ => False) hb5) (unhide HR4) (fun h => h)
  have HX5 := hide ((unhide HX4).kept (Kq.of (S := fun _ => False) hb5) (fun _ _ _ h => h))
  have HB5 := hide (Below.then (unhide HBW) hb5)
  clear a0 a1 a2 a3 a4 a5 a6 c2 hb5
  obtain ⟨a0, a1, a2, a3, a4, a5, a6⟩ := var_cells hq5
  have HR5 := hide hr5
  generalize hq0 : w.heap.size = q0 at HR5 hr5 ⊢
  have HQ0 := hide hq0
  obtain ⟨r0, r1, r2, r3, r4, r5, r6⟩ := var_cells hr5
  obtain ⟨o0, o1, o2, o3, o4, o5, o6⟩ := var_opens hr5
  clear hq5 hr5
  go_wp2_with fail
  change bodyPost _ _ _ _ _ (put7 w5 q0 x (.slice al x.kids.length c))
  have hV := put7_var (unhide HR5) x (.slice al x.kids.length c)
  have hk := put7_kq w5 q0 x (.slice al x.kids.length c)
  have hx9 := ((unhide HX5).kept hk (fun j hj _ e => by have := unhide HQ0; omega)).mono (S' := fun j => w.heap.size ≤ j) (fun j hj => Nat.le_of_lt hj) (fun _ _ _ h => h)
  have hb9 : Below w.heap.size w (put7 w5 q0 x (.slice al x.kids.length c)) := Kq.fresh ((Kq.of (S := fun j => j = q0) (unhide HB5)).andThen hk (fun _ _ h => h)) (fun j hj => by have := unhide HQ0; omega)
  obtain ⟨W9, e9⟩ : ∃ W9, put7 w5 q0 x (.slice al x.kids.length c) = W9 := ⟨_, rfl⟩
  rw [e9]
  rw [e9] at hV hx9 hb9
  obtain ⟨b0, b1, b2, b3, b4, b5, b6⟩ := var_cells hV
  have HX9 := hide hx9
  have HB9 := hide hb9
  clear hV hx9 hb9 e9 a0 a1 a2 a3 a4 a5 a6 r0 r1 r2 r3 r4 r5 r6
  refine bodyPost_ret (v := .tuple #[exAgg x (.slice al x.kids.length c), .int .i64 0]) (by simp [results, Tryz.results6, go_sem, b0, b1, b2, b3, b4, b5, b6]) rfl ?_
  exact ⟨al, c, rfl, unhide HX9, unhide HB9⟩
end Go.Proofs.YthkkfldmoflfaaaGreatDoor
/- What is scanned of a name, alone, behind a number, behind a sign, ahead of one: plain lemmas. -/
namespace Go.Proofs.YthkkfldmoflfaaaGreatDoor
open Go.RowKit
theorem nm_head {cs : List Nat} (h : isNm cs = true) : ∃ c t, cs = c :: t ∧ begC c = true := by
  obtain ⟨h1, h2⟩ := isNm_name h
  exact nameA_beg (by rw [h2]; exact h1)
theorem nm_go {cs : List Nat} (h : isNm cs = true) : ∀ c ∈ cs, goC c = true := by
  have := nameA_all cs
  rw [(isNm_name h).2] at this
  exact this
theorem nm_colon {cs : List Nat} (h : isNm cs = true) : 58 ∉ cs := fun hm => by
  have := nm_go h 58 hm
  rw [go58] at this; cases this
theorem nm_q {cs : List Nat} (h : isNm cs = true) : isQ cs = true := by
  unfold isQ
  have : cs.contains 58 = false := by
    cases hx : cs.contains 58
    · rfl
    · exact absurd (List.contains_iff_mem.1 hx) (nm_colon h)
  rw [this, if_neg (by decide)]; exact h
theorem nm_blank {cs : List Nat} (h : isNm cs = true) : ∀ c ∈ cs, blankC c = false := fun c hc => go_blank (nm_go h c hc)
theorem nm_drop {cs : List Nat} (h : isNm cs = true) (r : List Nat) : (cs ++ r).dropWhile blankC = cs ++ r ∧ cs ++ r ≠ [] := by
  obtain ⟨c, t, rfl, hb⟩ := nm_head h
  refine ⟨?_, by simp⟩
  rw [List.cons_append, List.dropWhile_cons_of_neg (by rw [nm_blank h c (by simp)]; decide)]
theorem name_T {s : ByteArray} (h : nameB s = true) : ∃ cs, okL cs ∧ s = T cs ∧ isNm cs = true := by
  have ht : textR s = true := by
    rw [nameB_eq] at h
    simp only [Bool.and_eq_true] at h
    exact h.1.1
  have hf : (fault s).1 = 0 := by
    have := text_eq s (s.size + 1) 0
    rw [show decide ((badFrom s (s.size + 1) 0).1 < 0) = textR s from rfl, ht] at this
    exact beq_iff_eq.1 this
  obtain ⟨cs, hl, rfl⟩ := txt_T ((fault_txt s (s.size + 1) 0 (by omega)).1 hf)
  exact ⟨cs, hl, rfl, by rw [← nameB_T hl]; exact h⟩
end Go.Proofs.YthkkfldmoflfaaaGreatDoor
/- XplexNames: a name behind an operand is an operator, or none; elsewhere it is a name. -/
namespace Go.Proofs.YthkkfldmoflfaaaGreatDoor
open Go.RowKit
structure ClsK (X : World) (g : Nat) (k : Int) (w' : World) : Prop where
  bel : Below X.heap.size X w'
  c0 : w'.cell? ⟨g, 0, none⟩ = some (.int .i64 k)
theorem ClsK.below {X w w' : World} {g : Nat} {k : Int} (h : ClsK X g k w) (hb : Below w.heap.size w w') : ClsK X g k w' := ⟨Below.then h.bel hb, kept_cell hb h.c0⟩
set_option maxHeartbeats 1000000 in
theorem refTypes_any (l : List Nat) (w : World) (hl : okL l) :
    Calls Tryz.prog 64 #[.string (T l)] w fun e w' => e = .returned (.bool (typeWord l)) ∧ w' = w := by
  have h1 := eq_asc hl [99, 111, 109, 109, 101, 110, 116] [99, 111, 109, 109, 101, 110, 116] rfl (by decide +kernel)
  have h2 := eq_asc hl [116, 101, 120, 116] [116, 101, 120, 116] rfl (by decide +kernel)
  have h3 := eq_asc hl [112, 114, 111, 99, 101, 115, 115, 105, 110, 103, 45, 105, 110, 115, 116, 114, 117, 99, 116, 105, 111, 110] [112, 114, 111, 99, 101, 115, 115, 105, 110, 103, 45, 105, 110, 115, 116, 114, 117, 99, 116, 105, 111, 110] rfl (by decide +kernel)
  have h4 := eq_asc hl [110, 111, 100, 101] [110, 111, 100, 101] rfl (by decide +kernel)
  have hO : typeWord l = (l == [99, 111, 109, 109, 101, 110, 116] || l == [116, 101, 120, 116] || l == [112, 114, 111, 99, 101, 115, 115, 105, 110, 103, 45, 105, 110, 115, 116, 114, 117, 99, 116, 105, 111, 110] || l == [110, 111, 100, 101]) := rfl
  have HO := hide hO
  clear hO
  generalize (l == [99, 111, 109, 109, 101, 110, 116]) = b1 at *
  generalize (l == [116, 101, 120, 116]) = b2 at *
  generalize (l == [112, 114, 111, 99, 101, 115, 115, 105, 110, 103, 45, 105, 110, 115, 116, 114, 117, 99, 116, 105, 111, 110]) = b3 at *
  generalize (l == [110, 111, 100, 101]) = b4 at *
  go_enter Tryz.func64, Tryz.ntmps64
  cases b1 <;> cases b2 <;> cases b3 <;> cases b4
  all_goals
    go_wp2
    go_ret
    exact ⟨ret_bool (by rw [unhide HO]; rfl), rfl⟩
theorem okL_asc {l : List Nat} (h : l.all (fun c => decide (32 ≤ c) && decide (c < 128)) = true) : okL l := fun c hc => by
  have := List.all_eq_true.1 h c hc
  simp at this
  simp [charR]
  omega
end Go.Proofs.YthkkfldmoflfaaaGreatDoor
