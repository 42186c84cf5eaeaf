/- Several texts, laid as one. -/
import Derived.Test.YthkkfldmoflfaaaGreatDoorGbj
import Derived.Test.YthkkfldmoflfaaaGreatDoorParX2
import Derived.Test.YthkkfldmoflfaaaGreatDoorGbk
import Derived.Deep.QuietTactic
import Derived.BigQuiet
import Derived.Test.YthkkfldmoflfaaaGreatDoorGbh
/- Whether an expression is right: xparse's Size and Right, of what is. -/
namespace Go.Proofs.YthkkfldmoflfaaaGreatDoor
open Go.RowKit Go.Maps
structure JAny (fl : Ex → Bool) (W0 : World) (n : Nat) : Prop where
  part : JPartC fl W0 n
  kids : JKidsC fl W0 n
  right : JRightC fl W0 n
  all : JAllC fl W0 n
  path : JPathC fl W0 n
theorem JAny.zero (fl : Ex → Bool) (W0 : World) : JAny fl W0 0 where
  part := fun p d c x al cc w S b c' _ _ _ _ _ _ h => by rw [jPart] at h; cases h
  kids := fun p d c x al cc w S b c' _ _ _ _ _ _ h => by rw [jKids] at h; cases h
  right := fun p d c x al cc w S b c' _ _ _ _ _ _ h => by rw [jRight] at h; cases h
  all := fun p d c x al cc w S b c' _ _ _ _ _ _ h => by rw [jAll] at h; cases h
  path := fun p d c x al cc w S b c' _ _ _ _ _ _ h => by rw [jPath] at h; cases h
theorem jany (fl : Ex → Bool) (W0 : World) (hF : FieldsC fl W0) : ∀ n m, m ≤ n → JAny fl W0 m
  | 0, m, h => by
    obtain rfl : m = 0 := by omega
    exact JAny.zero fl W0
  | n + 1, m, h => by
    have ih := jany fl W0 hF n
    by_cases hm : m ≤ n
    · exact ih m hm
    · obtain rfl : m = n + 1 := by omega
      have h1 := ih n (Nat.le_refl n)
      exact ⟨jpart_step fl W0 n hF h1.kids, jkids_step fl W0 n h1.all h1.path, jright_step fl W0 n h1.part, jall_step fl W0 n (fun m hm => (ih m hm).right), jpath_step fl W0 n (jbeg_any fl W0 n h1.part h1.right) (fun m hm => (ih m hm).part)⟩
set_option maxRecDepth 100000 in
set_option maxHeartbeats 4000000 in
theorem psize_ok (W0 : World) (hG : EnvG W0) (n c' : Nat) (x : Ex) (al : Option Addr) (cc : Nat) (w : World) (S : Nat → Prop) (hb : Below W0.heap.size W0 w) (hz : smallX x = true) (hx : exV w S x (.slice al x.kids.length cc)) (hr : jRight flX n 0 0 x = some (true, c')) :
    Calls Tryz.prog 28 #[exAgg x (.slice al x.kids.length cc)] w fun e w' => e = .returned (.int .i64 (c' : Nat)) ∧ Below w.heap.size w w' := by
  obtain ⟨W1, e1⟩ : ∃ W1, w.alloc (oneB x (.slice al x.kids.length cc)) = W1 := ⟨_, rfl⟩
  have hb1 : Below w.heap.size w W1 := by rw [← e1]; exact (Below.refl _ _).alloc (Nat.le_refl _) _
  have hq1 : W1.heap[w.heap.size]? = some (oneB x (.slice al x.kids.length cc)) := by rw [← e1]; exact palloc_new _ _
  obtain ⟨W2, e2⟩ : ∃ W2, W1.alloc (.cells #[.int .i64 0] 94) = W2 := ⟨_, rfl⟩
  have hb2 : Below W1.heap.size W1 W2 := by rw [← e2]; exact (Below.refl _ _).alloc (Nat.le_refl _) _
  have hj : JV W2 W1.heap.size 0 := by rw [← e2]; exact palloc_new _ _
  have hq2 := blockK (Kq.of (S := fun _ => False) hb2) hq1 (fun h => h)
  have hx2 := ((hx.kept (Kq.of (S := fun _ => False) hb1) (fun _ _ _ h => h)).bound).kept (Kq.of (S := fun _ => False) hb2) (fun _ _ _ h => h)
  have hlt : w.heap.size < W1.heap.size := (Array.getElem?_eq_some_iff.1 hq1).1
  have hJQ : JQ W0 W2 W1.heap.size 0 := ⟨hj, by have := hb.size; omega, hb.trans ((Below.then hb1 hb2).mono hb.size)⟩
  have hC := (jany flX W0 (pfields_any W0 hG) n n (Nat.le_refl n)).right W1.heap.size 0 0 x al cc W2 _ true c' hJQ hz hx2 (fun j hj => by omega) (by omega) (by omega) hr
  rw [show ((0 : Nat) : Int) = 0 from rfl] at hC
  have HC := hide hC
  have HB2 := hide (Below.then hb1 hb2)
  have HLT := hide hlt
  obtain ⟨a0, a1, a2, a3, a4, a5, a6⟩ := var_cells hq2
  generalize hp : W1.heap.size = p at HC hlt
  have HPW := hide hp
  clear hC hb1 hq1 hb2 hj hq2 hx2 hJQ hb hz hx hr hG hlt
  go_enter Tryz.func28, Tryz.ntmps28
  go_wp2_with fail
  refine (unhide HC).mono ?_
  rintro e w3 ⟨rfl, r1, r2⟩
  have c0 : w3.cell? ⟨p, 0, none⟩ = some (.int .i64 (c' : Nat)) := pcell r1 0
  have HB3 := hide (Kq.fresh ((Kq.of (S := fun j => j = p) (unhide HB2)).andThen r2 (fun _ _ h => h)) (fun j hj => by have := unhide HLT; have := unhide HPW; omega))
  clear r1 r2 HC a0 a1 a2 a3 a4 a5 a6
  go_wp2_with fail
  go_returns
  exact ⟨rfl, unhide HB3⟩
theorem jright_pos {n c' : Nat} {x : Ex} {fl : Ex → Bool} (hr : jRight fl n 0 0 x = some (true, c')) : 1 ≤ c' ∧ c' ≤ 512 := by
  have := (j_counts fl n).2.2.1 _ _ _ _ hr
  omega
set_option maxRecDepth 100000 in
set_option maxHeartbeats 4000000 in
theorem pright_ok (W0 : World) (hG : EnvG W0) (n c' : Nat) (x : Ex) (al : Option Addr) (cc : Nat) (w : World) (S : Nat → Prop) (hb : Below W0.heap.size W0 w) (hz : smallX x = true) (hx : exV w S x (.slice al x.kids.length cc)) (hr : jRight flX n 0 0 x = some (true, c')) :
    Calls Tryz.prog 13 #[exAgg x (.slice al x.kids.length cc)] w fun e w' => e = .returned (.bool true) ∧ Below w.heap.size w w' := by
  obtain ⟨W1, e1⟩ : ∃ W1, w.alloc (oneB x (.slice al x.kids.length cc)) = W1 := ⟨_, rfl⟩
  have hb1 : Below w.heap.size w W1 := by rw [← e1]; exact (Below.refl _ _).alloc (Nat.le_refl _) _
  have hq1 : W1.heap[w.heap.size]? = some (oneB x (.slice al x.kids.length cc)) := by rw [← e1]; exact palloc_new _ _
  have hx1 := hx.kept (Kq.of (S := fun _ => False) hb1) (fun _ _ _ h => h)
  have HC := hide (psize_ok W0 hG n c' x al cc W1 S (hb.trans (hb1.mono hb.size)) hz hx1 hr)
  have hp := jright_pos hr
  have HPOS := hide (show 0 < c' by omega)
  have HB1 := hide hb1
  obtain ⟨a0, a1, a2, a3, a4, a5, a6⟩ := var_cells hq1
  clear hb1 hq1 hx1 hb hz hx hr hG hp
  go_enter Tryz.func13, Tryz.ntmps13
  go_wp2_with fail
  refine (unhide HC).mono ?_
  rintro e w3 ⟨rfl, r1⟩
  have HB3 := hide (Below.then (unhide HB1) r1)
  clear r1 HC a0 a1 a2 a3 a4 a5 a6
  go_wp2_with fail
  go_returns
  exact ⟨ret_bool (decide_eq_true (unhide HPOS)), unhide HB3⟩
end Go.Proofs.YthkkfldmoflfaaaGreatDoor
/- XplexPlaces: places rise, and each token stands at its own. -/
namespace Go.Proofs.YthkkfldmoflfaaaGreatDoor
open Go.RowKit
theorem laid_count (n : List Nat → Nat) : ∀ ts pre l, Laid n pre l ts → ts.length ≤ l.length
  | [], _, _, _ => Nat.zero_le _
  | x :: ts, pre, l, ⟨hf, b, r, _, e, _, hL⟩ => by
    have ih := laid_count n ts _ _ hL
    have h1 := congrArg List.length e
    rw [List.length_append, List.length_append] at h1
    have h2 : 0 < x.1.raw.length := List.length_pos_iff.2 (formed_ne hf)
    simp only [List.length_cons]
    omega
def offOf (t : Tok) : Nat := if t.kind == 2 || t.kind == 7 then 1 else 0
theorem scan_laid_all {cs : List Nat} {ts : List (Tok × Nat)} (h : scanOf cs = .ok ts) : Laid (fun l => (tx l).length) [] cs ts :=
  scan_laid _ (cs.length + 1) [] [] cs ts (by rw [List.nil_append]; exact h) (by omega)
theorem off_raw {t : Tok} (h : formed t) : ∃ a b, t.raw = a ++ t.text ++ b ∧ (tx a).length = offOf t := by
  rcases h with ⟨hk, q, hq, _, e⟩ | ⟨hk, e, _⟩ | ⟨h2, h7, e, _⟩
  · refine ⟨[q], [q], by rw [e]; rfl, ?_⟩
    unfold offOf
    rw [hk]
    rcases hq with rfl | rfl <;> rfl
  · refine ⟨[36], [], by rw [e, List.append_nil]; rfl, ?_⟩
    unfold offOf
    rw [hk]
    rfl
  · refine ⟨[], [], by rw [e]; simp, ?_⟩
    unfold offOf
    rw [show (t.kind == 2) = false by simpa using h2, show (t.kind == 7) = false by simpa using h7]
    rfl
theorem place_at {cs : List Nat} {ts : List (Tok × Nat)} (h : scanOf cs = .ok ts) {k : Nat} {x : Tok × Nat} (hx : ts[k]? = some x) :
    x.2 + offOf x.1 + (T x.1.text).size ≤ (T cs).size ∧ (T cs).extract (x.2 + offOf x.1) (x.2 + offOf x.1 + (T x.1.text).size) = T x.1.text := by
  obtain ⟨hf, p, b, r, e, h2, _⟩ := laid_at _ ts [] cs (scan_laid_all h) k x hx
  obtain ⟨a, c, e2, e3⟩ := off_raw hf
  rw [List.nil_append] at e
  have e4 : cs = (p ++ a) ++ x.1.text ++ (c ++ b ++ r) := by rw [e, e2]; simp
  have e5 : x.2 + offOf x.1 = (tx (p ++ a)).length := by rw [tx_len_app, e3, h2]
  rw [e5]
  refine ⟨?_, ?_⟩
  · rw [T_size, T_size]
    have h1 := tx_len_app (p ++ a) x.1.text
    have h2 := tx_len_app (p ++ a ++ x.1.text) (c ++ b ++ r)
    rw [← e4] at h2
    omega
  · conv => lhs; rw [e4]
    exact T_mid _ _ _
end Go.Proofs.YthkkfldmoflfaaaGreatDoor
/- xparse's Parse of a text that is an expression. -/
namespace Go.Proofs.YthkkfldmoflfaaaGreatDoor
open Go.RowKit Go.Maps
theorem scan_formed6 {cs : List Nat} {ts : List (Tok × Nat)} (hl : okL cs) (h : scanOf cs = .ok ts) : ∀ x ∈ ts, okL x.1.text ∧ (T x.1.text).size ≤ (T cs).size := by
  intro x hx
  obtain ⟨i, hi, e⟩ := List.getElem_of_mem hx
  have hx' : ts[i]? = some x := by rw [List.getElem?_eq_getElem hi, e]
  obtain ⟨hf, p, b, r, e, _⟩ := laid_at _ ts [] cs (scan_laid_all h) i x hx'
  rw [List.nil_append] at e
  have hr : okL x.1.raw := by rw [e] at hl; exact okL_right (okL_left (okL_left hl))
  refine ⟨?_, by have := (place_at h hx').1; omega⟩
  obtain ⟨a, c, e2, _⟩ := off_raw hf
  rw [e2] at hr
  exact okL_right (okL_left hr)
/-- Where a parser begins. -/
def ps0 (ts : List (Tok × Nat)) : PS := ⟨ts.map (fun t => (t.1.kind, t.1.text)), 0, 0⟩
/-- A parser of the tokens that were scanned. -/
theorem pv_new {cs : List Nat} {ts : List (Tok × Nat)} {w w1 : World} {v : Value} (hl : okL cs) (hz : (T cs).size ≤ 512) (hs : scanOf cs = .ok ts) (hne : ts ≠ []) (hlen : ts.length ≤ 512) (h : OwnL w1 w.heap.size v ts) :
    ∃ g cap, v = .slice (some ⟨g, 0, none⟩) ts.length cap ∧ PV (w1.alloc (.cells #[v, .int .i64 0, .int .i64 0] 48)) w1.heap.size (ps0 ts) := by
  have hlo : (ps0 ts).left.length = ts.length := by unfold ps0; simp
  rcases own_cells h with ⟨h0, _⟩ | ⟨g, cap, rfl, hg, hlt, hcap, hc⟩
  · exact absurd h0 hne
  · have hcm : cap ≤ 9223372036854775807 := by
      rcases h.2 with ⟨e, _⟩ | ⟨g', cap', cur, e, _, _, _, h5, _⟩
      · cases e
      · cases e
        exact h5
    refine ⟨g, cap, rfl, by rw [hlo]; show 0 + ts.length ≤ 100000; omega, Nat.zero_le _, _, palloc_new _ _, fun x hx => ?_, .inr ⟨g, 0, cap, by rw [hlo], by rw [hlo]; exact hcap, hcm, hlt, by simp; omega, fun i x hx => ?_⟩⟩
    · obtain ⟨t, ht, rfl⟩ := List.mem_map.1 hx
      obtain ⟨h1, h2⟩ := scan_formed6 hl hs t ht
      exact ⟨h1, by show (T t.1.text).size ≤ 512; omega⟩
    · have hx' : (ts.map (fun t => (t.1.kind, t.1.text)))[i]? = some x := hx
      rw [List.getElem?_map] at hx'
      obtain ⟨t, ht, rfl⟩ := Option.map_eq_some_iff.1 hx'
      obtain ⟨c0, c1, c2⟩ := hc i t ht
      have hb : Below w1.heap.size w1 (w1.alloc (.cells #[.slice (some ⟨g, 0, none⟩) ts.length cap, .int .i64 0, .int .i64 0] 48)) := (Below.refl _ _).alloc (Nat.le_refl _) _
      exact ⟨by rw [Nat.zero_add]; exact pkept hb c0, by rw [Nat.zero_add]; exact pkept hb c1, _, by rw [Nat.zero_add]; exact pkept hb c2⟩
/-- What Parse leaves, where the text is an expression. -/
def outP6 (w : World) (x : Ex) (e : Ending) (w' : World) : Prop := ∃ al cc, e = .returned (.tuple #[exAgg x (.slice al x.kids.length cc), .int .i64 0]) ∧ exV w' (fun j => w.heap.size ≤ j) x (.slice al x.kids.length cc) ∧ Below w.heap.size w w'
set_option maxRecDepth 100000 in
set_option maxHeartbeats 2000000 in
theorem parse_ok6 (cs : List Nat) (ts : List (Tok × Nat)) (n m c' : Nat) (x : Ex) (s' : PS) (w : World) (hG : EnvG w) (hl : okL cs) (hz : (T cs).size ≤ 512) (hs : scanOf cs = .ok ts) (hne : ts ≠ []) (hlen : ts.length ≤ 512) (hn : n ≤ 90001) (hp : exprP numP n 0 (ps0 ts) = .ok x s') (hl' : s'.left = []) (hd : s'.dp ≤ 32) (hx : smallX x = true) (hr : jRight flX m 0 0 x = some (true, c')) :
    Calls Tryz.prog 6 #[.string (T cs)] w (outP6 w x) := by
  obtain ⟨wa, e0⟩ : ∃ wa, w.alloc expr0 = wa := ⟨_, rfl⟩
  have hb0 : Below w.heap.size w wa := by rw [← e0]; exact (Below.refl _ _).alloc (Nat.le_refl _) _
  have hr0 : wa.heap[w.heap.size]? = some expr0 := by rw [← e0]; exact palloc_new _ _
  have hS := scan_any cs wa hl hz (hG.below hb0).lex
  rw [hs] at hS
  have HS := hide hS
  have HPV := hide (fun w1 v (h : OwnL w1 wa.heap.size v ts) => pv_new (w := wa) hl hz hs hne hlen h)
  have HG := hide hG
  have HN := hide hn
  have HP := hide hp
  have HL := hide hl'
  have HD := hide hd
  have HX := hide hx
  have HR := hide hr
  have HB0 := hide hb0
  have HR0 := hide hr0
  have HA := hide (Array.getElem?_eq_some_iff.1 hr0).1
  clear hS hG hl hz hs hne hlen hn hp hl' hd hx hr hb0 hr0
  go_enter Tryz.func6, Tryz.ntmps6
  go_wp2_with fail
  refine (unhide HS).mono ?_
  rintro e w1 ⟨⟨v, rfl, hown⟩, hb1⟩
  obtain ⟨g, cap, rfl, hpv⟩ := unhide HPV w1 v hown
  have hb2 : Below w1.heap.size w1 (w1.alloc (.cells #[.slice (some ⟨g, 0, none⟩) ts.length cap, .int .i64 0, .int .i64 0] 48)) := (Below.refl _ _).alloc (Nat.le_refl _) _
  obtain ⟨W2, e2⟩ : ∃ W2, w1.alloc (.cells #[.slice (some ⟨g, 0, none⟩) ts.length cap, .int .i64 0, .int .i64 0] 48) = W2 := ⟨_, rfl⟩
  rw [e2] at hpv hb2
  have hw2 : Below w.heap.size w W2 := Below.then (unhide HB0) (Below.then hb1 hb2)
  have hlo : w.heap.size < w1.heap.size := Nat.lt_of_lt_of_le (unhide HA) hb1.size
  have hQ : PQ w W2 w1.heap.size (ps0 ts) := ⟨hpv, Nat.le_of_lt hlo, hw2⟩
  have HW := hide (pwhole_ok w (unhide HG) n (unhide HN) w1.heap.size (ps0 ts) W2 x s' hQ (unhide HP) (unhide HL))
  have HB2 := hide hw2
  have HLO := hide hlo
  have HPL := hide hpv.lt
  have HR2 : Hid (W2.heap[w.heap.size]? = some expr0) := hide (blockK (Kq.of (S := fun _ => False) (Below.then hb1 hb2)) (unhide HR0) (fun h => h))
  generalize hq : w1.heap.size = p at HW HLO HPL
  have HPW := hide hq
  clear hown hpv hb1 hb2 hQ HS HPV HP hw2 hlo
  subst e2
  go_wp2_with fail
  refine (unhide HW).mono ?_
  generalize w1.alloc (.cells #[.slice (some ⟨g, 0, none⟩) ts.length cap, .int .i64 0, .int .i64 0] 48) = W2 at *
  rintro e w3 ⟨al, c, rfl, hX⟩
  have hb4 : Below w3.heap.size w3 (w3.alloc (oneB x (.slice al x.kids.length c))) := (Below.refl _ _).alloc (Nat.le_refl _) _
  have hq4 := palloc_new w3 (oneB x (.slice al x.kids.length c))
  obtain ⟨W4, e4⟩ : ∃ W4, w3.alloc (oneB x (.slice al x.kids.length c)) = W4 := ⟨_, rfl⟩
  rw [e4] at hb4 hq4
  obtain ⟨_, _, vl, hpb, _⟩ := hX.pv.below hb4
  have c2 : W4.cell? ⟨p, 2, none⟩ = some (.int .i64 (s'.dp : Nat)) := pcell hpb 2
  have n2 : decide ((32 : Int) < ((s'.dp : Nat) : Int)) = false := decide_eq_false (by have := unhide HD; omega)
  have hx4 := hX.ex.kept (Kq.of (S := fun _ => False) hb4) (fun _ _ _ h => h)
  have hk4 : Kq (fun j => j = p) W2 W4 := hX.kq.andThen (Kq.of (S := fun j => j = p) hb4) (fun _ _ h => h)
  have hbw : Below w.heap.size w W4 := Kq.fresh ((Kq.of (S := fun j => j = p) (unhide HB2)).andThen hk4 (fun _ _ h => h)) (fun j hj => by have := unhide HLO; omega)
  have HR4 : Hid (W4.heap[w.heap.size]? = some expr0) := hide (blockK hk4 (unhide HR2) (by have := unhide HLO; omega))
  have HRI := hide (pright_ok w (unhide HG) m c' x al c W4 _ hbw (unhide HX) hx4 (unhide HR))
  have hsz : w.heap.size < W2.heap.size := (Array.getElem?_eq_some_iff.1 (unhide HR2)).1
  have HX4 := hide (hx4.mono (S' := fun j => w.heap.size < j) (fun j hj => Nat.lt_of_lt_of_le hsz hj) (fun _ _ _ h => h))
  have HBW := hide hbw
  have HQ4 := hide hq4
  generalize hq3 : w3.heap.size = q at hq4 HQ4
  obtain ⟨a0, a1, a2, a3, a4, a5, a6⟩ := var_cells hq4
  clear hb4 hX hpb hx4 hbw hsz hq4 hk4
  go_wp2_with fail
  refine (unhide HRI).mono ?_
  rintro e w5 ⟨rfl, hb5⟩
  have hq5 := blockK (Kq.of (S := fun _ => False) hb5) (unhide HQ4) (fun h => h)
  have hr5 := blockK (Kq.of (S := fun _ => False) hb5) (unhide HR4) (fun h => h)
  have HX5 := hide ((unhide HX4).kept (Kq.of (S := fun _ => False) hb5) (fun _ _ _ h => h))
  have HB5 := hide (Below.then (unhide HBW) hb5)
  clear a0 a1 a2 a3 a4 a5 a6 c2 hb5
  obtain ⟨a0, a1, a2, a3, a4, a5, a6⟩ := var_cells hq5
  have HR5 := hide hr5
  generalize hq0 : w.heap.size = q0 at HR5 hr5 ⊢
  have HQ0 := hide hq0
  obtain ⟨r0, r1, r2, r3, r4, r5, r6⟩ := var_cells hr5
  obtain ⟨o0, o1, o2, o3, o4, o5, o6⟩ := var_opens hr5
  clear hq5 hr5
  go_wp2_with fail
  change bodyPost _ _ _ _ _ (put7 w5 q0 x (.slice al x.kids.length c))
  have hV := put7_var (unhide HR5) x (.slice al x.kids.length c)
  have hk := put7_kq w5 q0 x (.slice al x.kids.length c)
  have hx9 := ((unhide HX5).kept hk (fun j hj _ e => by have := unhide HQ0; omega)).mono (S' := fun j => w.heap.size ≤ j) (fun j hj => Nat.le_of_lt hj) (fun _ _ _ h => h)
  have hb9 : Below w.heap.size w (put7 w5 q0 x (.slice al x.kids.length c)) := Kq.fresh ((Kq.of (S := fun j => j = q0) (unhide HB5)).andThen hk (fun _ _ h => h)) (fun j hj => by have := unhide HQ0; omega)
  obtain ⟨W9, e9⟩ : ∃ W9, put7 w5 q0 x (.slice al x.kids.length c) = W9 := ⟨_, rfl⟩
  rw [e9]
  rw [e9] at hV hx9 hb9
  obtain ⟨b0, b1, b2, b3, b4, b5, b6⟩ := var_cells hV
  have HX9 := hide hx9
  have HB9 := hide hb9
  clear hV hx9 hb9 e9 a0 a1 a2 a3 a4 a5 a6 r0 r1 r2 r3 r4 r5 r6
  refine bodyPost_ret (v := .tuple #[exAgg x (.slice al x.kids.length c), .int .i64 0]) (by simp [results, Tryz.results6, go_sem, b0, b1, b2, b3, b4, b5, b6]) rfl ?_
  exact ⟨al, c, rfl, unhide HX9, unhide HB9⟩
end Go.Proofs.YthkkfldmoflfaaaGreatDoor
/- xparse's Parse of a text that is no expression; Size, Right of what is not right. -/
namespace Go.Proofs.YthkkfldmoflfaaaGreatDoor
open Go.RowKit Go.Maps
set_option maxRecDepth 100000 in
set_option maxHeartbeats 4000000 in
theorem psize_no (W0 : World) (hG : EnvG W0) (n c' : Nat) (x : Ex) (al : Option Addr) (cc : Nat) (w : World) (S : Nat → Prop) (hb : Below W0.heap.size W0 w) (hz : smallX x = true) (hx : exV w S x (.slice al x.kids.length cc)) (hr : jRight flX n 0 0 x = some (false, c')) :
    Calls Tryz.prog 28 #[exAgg x (.slice al x.kids.length cc)] w fun e w' => e = .returned (.int .i64 0) ∧ Below w.heap.size w w' := by
  obtain ⟨W1, e1⟩ : ∃ W1, w.alloc (oneB x (.slice al x.kids.length cc)) = W1 := ⟨_, rfl⟩
  have hb1 : Below w.heap.size w W1 := by rw [← e1]; exact (Below.refl _ _).alloc (Nat.le_refl _) _
  have hq1 : W1.heap[w.heap.size]? = some (oneB x (.slice al x.kids.length cc)) := by rw [← e1]; exact palloc_new _ _
  obtain ⟨W2, e2⟩ : ∃ W2, W1.alloc (.cells #[.int .i64 0] 94) = W2 := ⟨_, rfl⟩
  have hb2 : Below W1.heap.size W1 W2 := by rw [← e2]; exact (Below.refl _ _).alloc (Nat.le_refl _) _
  have hj : JV W2 W1.heap.size 0 := by rw [← e2]; exact palloc_new _ _
  have hq2 := blockK (Kq.of (S := fun _ => False) hb2) hq1 (fun h => h)
  have hx2 := ((hx.kept (Kq.of (S := fun _ => False) hb1) (fun _ _ _ h => h)).bound).kept (Kq.of (S := fun _ => False) hb2) (fun _ _ _ h => h)
  have hlt : w.heap.size < W1.heap.size := (Array.getElem?_eq_some_iff.1 hq1).1
  have hJQ : JQ W0 W2 W1.heap.size 0 := ⟨hj, by have := hb.size; omega, hb.trans ((Below.then hb1 hb2).mono hb.size)⟩
  have hC := (jany flX W0 (pfields_any W0 hG) n n (Nat.le_refl n)).right W1.heap.size 0 0 x al cc W2 _ false c' hJQ hz hx2 (fun j hj => by omega) (by omega) (by omega) hr
  rw [show ((0 : Nat) : Int) = 0 from rfl] at hC
  have HC := hide hC
  have HB2 := hide (Below.then hb1 hb2)
  have HLT := hide hlt
  obtain ⟨a0, a1, a2, a3, a4, a5, a6⟩ := var_cells hq2
  generalize hp : W1.heap.size = p at HC hlt
  have HPW := hide hp
  clear hC hb1 hq1 hb2 hj hq2 hx2 hJQ hb hz hx hr hG hlt
  go_enter Tryz.func28, Tryz.ntmps28
  go_wp2_with fail
  refine (unhide HC).mono ?_
  rintro e w3 ⟨rfl, r1, r2⟩
  have c0 : w3.cell? ⟨p, 0, none⟩ = some (.int .i64 (c' : Nat)) := pcell r1 0
  have HB3 := hide (Kq.fresh ((Kq.of (S := fun j => j = p) (unhide HB2)).andThen r2 (fun _ _ h => h)) (fun j hj => by have := unhide HLT; have := unhide HPW; omega))
  clear r1 r2 HC a0 a1 a2 a3 a4 a5 a6
  go_wp2_with fail
  go_returns
  exact ⟨rfl, unhide HB3⟩
set_option maxRecDepth 100000 in
set_option maxHeartbeats 4000000 in
theorem pright_no (W0 : World) (hG : EnvG W0) (n c' : Nat) (x : Ex) (al : Option Addr) (cc : Nat) (w : World) (S : Nat → Prop) (hb : Below W0.heap.size W0 w) (hz : smallX x = true) (hx : exV w S x (.slice al x.kids.length cc)) (hr : jRight flX n 0 0 x = some (false, c')) :
    Calls Tryz.prog 13 #[exAgg x (.slice al x.kids.length cc)] w fun e w' => e = .returned (.bool false) ∧ Below w.heap.size w w' := by
  obtain ⟨W1, e1⟩ : ∃ W1, w.alloc (oneB x (.slice al x.kids.length cc)) = W1 := ⟨_, rfl⟩
  have hb1 : Below w.heap.size w W1 := by rw [← e1]; exact (Below.refl _ _).alloc (Nat.le_refl _) _
  have hq1 : W1.heap[w.heap.size]? = some (oneB x (.slice al x.kids.length cc)) := by rw [← e1]; exact palloc_new _ _
  have hx1 := hx.kept (Kq.of (S := fun _ => False) hb1) (fun _ _ _ h => h)
  have HC := hide (psize_no W0 hG n c' x al cc W1 S (hb.trans (hb1.mono hb.size)) hz hx1 hr)
  have HB1 := hide hb1
  obtain ⟨a0, a1, a2, a3, a4, a5, a6⟩ := var_cells hq1
  clear hb1 hq1 hx1 hb hz hx hr hG
  go_enter Tryz.func13, Tryz.ntmps13
  go_wp2_with fail
  refine (unhide HC).mono ?_
  rintro e w3 ⟨rfl, r1⟩
  have HB3 := hide (Below.then (unhide HB1) r1)
  clear r1 HC a0 a1 a2 a3 a4 a5 a6
  go_wp2_with fail
  go_returns
  exact ⟨rfl, unhide HB3⟩
/-- A parser of the tokens that were scanned, of none too. -/
theorem pv_any {cs : List Nat} {ts : List (Tok × Nat)} {w w1 : World} {v : Value} (hl : okL cs) (hz : (T cs).size ≤ 512) (hs : scanOf cs = .ok ts) (hlen : ts.length ≤ 512) (h : OwnL w1 w.heap.size v ts) :
    ∃ al cap, v = .slice al ts.length cap ∧ PV (w1.alloc (.cells #[v, .int .i64 0, .int .i64 0] 48)) w1.heap.size (ps0 ts) := by
  by_cases hne : ts = []
  · subst hne
    rcases h.2 with ⟨e, _⟩ | ⟨g', cap', cur, e, h2, h3, _, h5, _⟩
    · subst e
      exact ⟨_, _, rfl, by unfold ps0; simp, Nat.zero_le _, _, palloc_new _ _, ⟨(fun x hx => by cases hx), Or.inl ⟨rfl, rfl⟩⟩⟩
    · subst e
      have hlt := (Array.getElem?_eq_some_iff.1 h3).1
      exact ⟨_, _, rfl, by unfold ps0; simp, Nat.zero_le _, _, palloc_new _ _, ⟨(fun x hx => by cases hx), Or.inr ⟨g', 0, cap', rfl, Nat.zero_le _, h5, hlt, by simp; omega, (fun i x hx => by cases hx)⟩⟩⟩
  · obtain ⟨g, cap, e, hp⟩ := pv_new hl hz hs hne hlen h
    exact ⟨_, _, e, hp⟩
/-- What Parse leaves where the text is no expression. -/
def outPN (w : World) (f : Int) (e : Ending) (w' : World) : Prop := e = .returned (.tuple #[exAgg noX (.slice none 0 0), .int .i64 f]) ∧ Below w.heap.size w w'
set_option maxRecDepth 100000 in
set_option maxHeartbeats 4000000 in
theorem parse_noscan (s : ByteArray) (f : Int) (w : World) (hf : (f != 0) = true) (hS : ∀ W : World, Below w.heap.size w W → Calls Tryz.prog 11 #[.string s] W fun e w' => (∃ k, e = .returned (.tuple #[.slice none 0 0, .int .i64 f, .int .i64 k])) ∧ Below W.heap.size W w') :
    Calls Tryz.prog 6 #[.string s] w (outPN w f) := by
  obtain ⟨wa, e0⟩ : ∃ wa, w.alloc expr0 = wa := ⟨_, rfl⟩
  have hb0 : Below w.heap.size w wa := by rw [← e0]; exact (Below.refl _ _).alloc (Nat.le_refl _) _
  have hr0 : wa.heap[w.heap.size]? = some expr0 := by rw [← e0]; exact palloc_new _ _
  have HS := hide (hS wa hb0)
  have HB0 := hide hb0
  have HR0 := hide hr0
  clear hS hb0 hr0
  go_enter Tryz.func6, Tryz.ntmps6
  go_wp2_with fail
  refine (unhide HS).mono ?_
  rintro e w5 ⟨⟨k, rfl⟩, hb1⟩
  have hr5 := blockK (Kq.of (S := fun _ => False) hb1) (unhide HR0) (fun h => h)
  have HB5 := hide (Below.then (unhide HB0) hb1)
  clear hb1
  have HR5 := hide hr5
  generalize hq0 : w.heap.size = q0 at HR5 hr5 ⊢
  have HQ0 := hide hq0
  obtain ⟨r0, r1, r2, r3, r4, r5, r6⟩ := var_cells hr5
  obtain ⟨o0, o1, o2, o3, o4, o5, o6⟩ := var_opens hr5
  clear hr5
  go_wp2_with fail
  change bodyPost _ _ _ _ _ (put7 w5 q0 noX (.slice none 0 0))
  have hV := put7_var (unhide HR5) noX (.slice none 0 0)
  have hk := put7_kq w5 q0 noX (.slice none 0 0)
  have hb9 : Below w.heap.size w (put7 w5 q0 noX (.slice none 0 0)) := Kq.fresh ((Kq.of (S := fun j => j = q0) (unhide HB5)).andThen hk (fun _ _ h => h)) (fun j hj => by have := unhide HQ0; omega)
  obtain ⟨W9, e9⟩ : ∃ W9, put7 w5 q0 noX (.slice none 0 0) = W9 := ⟨_, rfl⟩
  rw [e9]
  rw [e9] at hV hb9
  obtain ⟨b0, b1, b2, b3, b4, b5, b6⟩ := var_cells hV
  have HB9 := hide hb9
  clear hV hb9 e9 r0 r1 r2 r3 r4 r5 r6
  refine bodyPost_ret (v := .tuple #[exAgg noX (.slice none 0 0), .int .i64 f]) (by simp [results, Tryz.results6, go_sem, b0, b1, b2, b3, b4, b5, b6]) rfl ?_
  exact ⟨rfl, unhide HB9⟩
set_option maxRecDepth 100000 in
set_option maxHeartbeats 4000000 in
theorem parse_word (cs : List Nat) (ts : List (Tok × Nat)) (w : World) (hG : EnvG w) (hl : okL cs) (hz : (T cs).size ≤ 512) (hs : scanOf cs = .ok ts) (hlen : ts.length ≤ 512) (hw : ∀ (p : Nat) (W : World), PQ w W p (ps0 ts) → Calls Tryz.prog 12 #[.pointer (some ⟨p, 0, none⟩)] W (outWN p W)) :
    Calls Tryz.prog 6 #[.string (T cs)] w (outPN w 9) := by
  obtain ⟨wa, e0⟩ : ∃ wa, w.alloc expr0 = wa := ⟨_, rfl⟩
  have hb0 : Below w.heap.size w wa := by rw [← e0]; exact (Below.refl _ _).alloc (Nat.le_refl _) _
  have hr0 : wa.heap[w.heap.size]? = some expr0 := by rw [← e0]; exact palloc_new _ _
  have hS := scan_any cs wa hl hz (hG.below hb0).lex
  rw [hs] at hS
  have HS := hide hS
  have HPV := hide (fun w1 v (h : OwnL w1 wa.heap.size v ts) => pv_any (w := wa) hl hz hs hlen h)
  have HG := hide hG
  have HWW := hide hw
  have HB0 := hide hb0
  have HR0 := hide hr0
  have HA := hide (Array.getElem?_eq_some_iff.1 hr0).1
  clear hS hG hl hz hs hlen hw hb0 hr0
  go_enter Tryz.func6, Tryz.ntmps6
  go_wp2_with fail
  refine (unhide HS).mono ?_
  rintro e w1 ⟨⟨v, rfl, hown⟩, hb1⟩
  obtain ⟨ag, cap, rfl, hpv⟩ := unhide HPV w1 v hown
  have hb2 : Below w1.heap.size w1 (w1.alloc (.cells #[.slice ag ts.length cap, .int .i64 0, .int .i64 0] 48)) := (Below.refl _ _).alloc (Nat.le_refl _) _
  obtain ⟨W2, e2⟩ : ∃ W2, w1.alloc (.cells #[.slice ag ts.length cap, .int .i64 0, .int .i64 0] 48) = W2 := ⟨_, rfl⟩
  rw [e2] at hpv hb2
  have hw2 : Below w.heap.size w W2 := Below.then (unhide HB0) (Below.then hb1 hb2)
  have hlo : w.heap.size < w1.heap.size := Nat.lt_of_lt_of_le (unhide HA) hb1.size
  have hQ : PQ w W2 w1.heap.size (ps0 ts) := ⟨hpv, Nat.le_of_lt hlo, hw2⟩
  have HW := hide (unhide HWW w1.heap.size W2 hQ)
  have HB2 := hide hw2
  have HLO := hide hlo
  have HPL := hide hpv.lt
  have HR2 : Hid (W2.heap[w.heap.size]? = some expr0) := hide (blockK (Kq.of (S := fun _ => False) (Below.then hb1 hb2)) (unhide HR0) (fun h => h))
  generalize hq : w1.heap.size = p at HW HLO HPL
  have HPW := hide hq
  clear hown hpv hb1 hb2 hQ HS HPV HWW hw2 hlo
  subst e2
  go_wp2_with fail
  refine (unhide HW).mono ?_
  generalize w1.alloc (.cells #[.slice ag ts.length cap, .int .i64 0, .int .i64 0] 48) = W2 at *
  rintro e w3 ⟨rfl, hX⟩
  have hb4 : Below w3.heap.size w3 (w3.alloc (oneB noX (.slice none 0 0))) := (Below.refl _ _).alloc (Nat.le_refl _) _
  obtain ⟨w5, e4⟩ : ∃ W4, w3.alloc (oneB noX (.slice none 0 0)) = W4 := ⟨_, rfl⟩
  rw [e4] at hb4
  have hk4 : Kq (fun j => j = p) W2 w5 := hX.andThen (Kq.of (S := fun j => j = p) hb4) (fun _ _ h => h)
  have HB5 := hide (Kq.fresh ((Kq.of (S := fun j => j = p) (unhide HB2)).andThen hk4 (fun _ _ h => h)) (fun j hj => by have := unhide HLO; omega))
  have hr5 : w5.heap[w.heap.size]? = some expr0 := blockK hk4 (unhide HR2) (by have := unhide HLO; omega)
  clear hX hb4 hk4
  subst e4
  have HR5 := hide hr5
  generalize hq0 : w.heap.size = q0 at HR5 hr5 ⊢
  have HQ0 := hide hq0
  obtain ⟨r0, r1, r2, r3, r4, r5, r6⟩ := var_cells hr5
  obtain ⟨o0, o1, o2, o3, o4, o5, o6⟩ := var_opens hr5
  clear hr5
  go_wp2_with fail
  generalize w3.alloc (oneB noX (.slice none 0 0)) = w5 at *
  change bodyPost _ _ _ _ _ (put7 w5 q0 noX (.slice none 0 0))
  have hV := put7_var (unhide HR5) noX (.slice none 0 0)
  have hk := put7_kq w5 q0 noX (.slice none 0 0)
  have hb9 : Below w.heap.size w (put7 w5 q0 noX (.slice none 0 0)) := Kq.fresh ((Kq.of (S := fun j => j = q0) (unhide HB5)).andThen hk (fun _ _ h => h)) (fun j hj => by have := unhide HQ0; omega)
  obtain ⟨W9, e9⟩ : ∃ W9, put7 w5 q0 noX (.slice none 0 0) = W9 := ⟨_, rfl⟩
  rw [e9]
  rw [e9] at hV hb9
  obtain ⟨b0, b1, b2, b3, b4, b5, b6⟩ := var_cells hV
  have HB9 := hide hb9
  clear hV hb9 e9 r0 r1 r2 r3 r4 r5 r6
  refine bodyPost_ret (v := .tuple #[exAgg noX (.slice none 0 0), .int .i64 9]) (by simp [results, Tryz.results6, go_sem, b0, b1, b2, b3, b4, b5, b6]) rfl ?_
  exact ⟨rfl, unhide HB9⟩
end Go.Proofs.YthkkfldmoflfaaaGreatDoor
