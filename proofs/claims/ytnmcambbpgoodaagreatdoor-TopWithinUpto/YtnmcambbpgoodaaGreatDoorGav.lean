/- Several texts, laid as one. -/
import Derived.Test.YtnmcambbpgoodaaGreatDoorGau
/- xparse's alike, at two copies of one expression. -/
namespace Go.Proofs.YtnmcambbpgoodaaGreatDoor
open Go.RowKit Go.Maps
/-- A Kid's cells, where its slice lies. -/
theorem KsV.kidC {w : World} {S : Nat → Prop} {ks : List Ex} {al : Option Addr} {cc : Nat} (h : KsV w S ks (.slice al ks.length cc)) (k : Nat) (x : Ex) (hk : ks[k]? = some x) : ∃ g o al1 cc1, al = some ⟨g, o, none⟩ ∧ exV w S x (.slice al1 x.kids.length cc1) ∧
    w.cell? ⟨g, o + k * 7, none⟩ = some (.int .i64 (x.op : Nat)) ∧ w.cell? ⟨g, o + k * 7 + 1, none⟩ = some (.string (T x.text)) ∧ w.cell? ⟨g, o + k * 7 + 2, none⟩ = some (.int .i64 0) ∧ w.cell? ⟨g, o + k * 7 + 3, none⟩ = some (.int .i64 x.num) ∧ w.cell? ⟨g, o + k * 7 + 4, none⟩ = some (.int .i64 (x.axis : Nat)) ∧ w.cell? ⟨g, o + k * 7 + 5, none⟩ = some (.int .i64 (x.test : Nat)) ∧ w.cell? ⟨g, o + k * 7 + 6, none⟩ = some (.slice al1 x.kids.length cc1) := by
  obtain ⟨g, o, ce, al1, cc1, ev, hg, hx1, hcells⟩ := h.kid k x hk
  cases ev
  exact ⟨g, o, al1, cc1, rfl, hx1, hcells 0 _ rfl, (Nat.add_assoc o (k * 7) 1) ▸ hcells 1 _ rfl, (Nat.add_assoc o (k * 7) 2) ▸ hcells 2 _ rfl, (Nat.add_assoc o (k * 7) 3) ▸ hcells 3 _ rfl, (Nat.add_assoc o (k * 7) 4) ▸ hcells 4 _ rfl, (Nat.add_assoc o (k * 7) 5) ▸ hcells 5 _ rfl, (Nat.add_assoc o (k * 7) 6) ▸ hcells 6 _ rfl⟩
theorem KsV.belowC {w w' : World} {S : Nat → Prop} {ks : List Ex} {v : Value} (h : KsV w S ks v) (hb : Below w.heap.size w w') : KsV w' S ks v := h.kept (Kq.of (S := fun _ => False) hb) (fun _ _ _ h => h)
theorem exV.belowC {w w' : World} {S : Nat → Prop} {x : Ex} {v : Value} (h : exV w S x v) (hb : Below w.heap.size w w') : exV w' S x v := h.kept (Kq.of (S := fun _ => False) hb) (fun _ _ _ h => h)
theorem blockC {w w' : World} {q : Nat} {o : Obj} (h : w.heap[q]? = some o) (hb : Below w.heap.size w w') : w'.heap[q]? = some o := blockK (Kq.of (S := fun _ => False) hb) h (fun h => h)
def AlikeAt (x : Ex) : Prop := ∀ (al bl : Option Addr) (cc bc : Nat) (w : World) (S R : Nat → Prop), exV w S x (.slice al x.kids.length cc) → exV w R x (.slice bl x.kids.length bc) → Calls Tryz.prog 18 #[exAgg x (.slice al x.kids.length cc), exAgg x (.slice bl x.kids.length bc)] w fun e w' => e = .returned (.bool true) ∧ Below w.heap.size w w'
set_option maxRecDepth 100000 in
set_option maxHeartbeats 1000000 in
theorem eqf_walk (ks : List Ex) (al bl : Option Addr) (cc bc : Nat) (w : World) (S R : Nat → Prop) (hl : ks.length ≤ 1000000) (hx : KsV w S ks (.slice al ks.length cc)) (hy : KsV w R ks (.slice bl ks.length bc)) (hA : ∀ (i : Nat) (x : Ex), ks[i]? = some x → AlikeAt x) :
    Calls Tryz.prog 36 #[.slice al ks.length cc, .slice bl ks.length bc, .func (.func 18) #[] #[]] w fun e w' => e = .returned (.bool true) ∧ Below w.heap.size w w' := by
  have HX := hide hx
  have HY := hide hy
  have HA := hide hA
  have HL := hide hl
  clear hx hy hA hl
  go_enter Tryz.func36, Tryz.ntmps36
  go_wp2_with fail
  go_loopw [17] (fun vi wr => ∃ k : Nat, vi = .int .i64 (k : Nat) ∧ k ≤ ks.length ∧ Hid (Below w.heap.size w wr)) (fun vi _ => ks.length - (intOf vi).toNat)
  case atStart => exact ⟨0, rfl, Nat.zero_le _, hide (Below.refl _ _)⟩
  case round =>
    obtain ⟨k, rfl, hk, HB⟩ := hrel
    by_cases hkn : k < ks.length
    · obtain ⟨u, hku⟩ : ∃ u, ks[k]? = some u := ⟨_, List.getElem?_eq_getElem hkn⟩
      obtain ⟨g, o, al1, cc1, ev, hx1, h0, h1, h2, h3, h4, h5, h6⟩ := ((unhide HX).belowC (unhide HB)).kidC k u hku
      obtain ⟨g', o', al2, cc2, ev2, hy1, k0, k1, k2, k3, k4, k5, k6⟩ := ((unhide HY).belowC (unhide HB)).kidC k u hku
      cases ev
      cases ev2
      obtain ⟨W1, e1⟩ : ∃ W1, wr.alloc (oneB u (.slice al1 u.kids.length cc1)) = W1 := ⟨_, rfl⟩
      have hb1 : Below wr.heap.size wr W1 := by rw [← e1]; exact (Below.refl _ _).alloc (Nat.le_refl _) _
      have hq1 : W1.heap[wr.heap.size]? = some (oneB u (.slice al1 u.kids.length cc1)) := by rw [← e1]; exact palloc_new _ _
      obtain ⟨W2, e2⟩ : ∃ W2, W1.alloc (oneB u (.slice al2 u.kids.length cc2)) = W2 := ⟨_, rfl⟩
      have hb2 : Below W1.heap.size W1 W2 := by rw [← e2]; exact (Below.refl _ _).alloc (Nat.le_refl _) _
      have hp2 : W2.heap[W1.heap.size]? = some (oneB u (.slice al2 u.kids.length cc2)) := by rw [← e2]; exact palloc_new _ _
      have hq2 := blockC hq1 hb2
      obtain ⟨a0, a1, a2, a3, a4, a5, a6⟩ := var_cells hq2
      obtain ⟨c0, c1, c2, c3, c4, c5, c6⟩ := var_cells hp2
      have j0 := pkept hb1 k0
      have j1 := pkept hb1 k1
      have j2 := pkept hb1 k2
      have j3 := pkept hb1 k3
      have j4 := pkept hb1 k4
      have j5 := pkept hb1 k5
      have j6 := pkept hb1 k6
      have HC := hide (unhide HA k u hku al1 al2 cc1 cc2 W2 S R ((hx1.belowC hb1).belowC hb2) ((hy1.belowC hb1).belowC hb2))
      have HB2 := hide (Below.then (unhide HB) (Below.then hb1 hb2))
      have hln := unhide HL
      have n1 : decide (k < ks.length) = true := decide_eq_true hkn
      have w1 : IntKind.i64.wrap ((k : Int) + 1) = ((k + 1 : Nat) : Int) := by rw [wrap_small] <;> omega
      clear hx1 hy1 hku hb1 hq1 hb2 hp2 hq2 k0 k1 k2 k3 k4 k5 k6
      go_wp2_with fail
      refine (unhide HC).mono ?_
      rintro e w3 ⟨rfl, hb3⟩
      have HB3 := hide (Below.then (unhide HB2) hb3)
      clear hb3 HC HB2 e1 e2 h0 h1 h2 h3 h4 h5 h6 a0 a1 a2 a3 a4 a5 a6 c0 c1 c2 c3 c4 c5 c6 j0 j1 j2 j3 j4 j5 j6
      go_wp2_with fail
      exact ⟨⟨k + 1, by go_num, by omega, HB3⟩, by show ks.length - ((k : Int) + 1).toNat < ks.length - (k : Int).toNat; omega⟩
    · have n1 : decide (k < ks.length) = false := decide_eq_false hkn
      go_wp2_with fail
      go_returns
      exact ⟨rfl, unhide HB⟩
theorem wtKs_at : ∀ {ks : List Ex} {i : Nat} {x : Ex}, ks[i]? = some x → wt x + 1 ≤ wtKs ks
  | [], i, x, h => by simp at h
  | k :: ks, 0, x, h => by
    cases h
    rw [wtKs]
    have : 1 ≤ wtKs ks := by cases ks <;> rw [wtKs] <;> omega
    omega
  | k :: ks, i + 1, x, h => by
    have h2 : ks[i]? = some x := by simpa using h
    have := wtKs_at h2
    rw [wtKs]
    omega
theorem wtKs_len : ∀ ks : List Ex, ks.length ≤ wtKs ks
  | [] => Nat.zero_le _
  | k :: ks => by
    have := wtKs_len ks
    rw [wtKs, List.length_cons]
    omega
set_option maxRecDepth 100000 in
set_option maxHeartbeats 1000000 in
theorem alike_all : ∀ (n : Nat) (x : Ex), wt x ≤ n → n ≤ 1000000 → AlikeAt x
  | 0, x, h, _ => by have := wt_kids x; omega
  | n + 1, x, h, hn => by
    intro al bl cc bc w S R hx hy
    have hwk := wt_kids x
    have HA := hide (fun (i : Nat) (u : Ex) (hu : x.kids[i]? = some u) => alike_all n u (by have := wtKs_at hu; omega) (by omega))
    have hlen : x.kids.length ≤ 1000000 := by have := wtKs_len x.kids; omega
    obtain ⟨W1, e1⟩ : ∃ W1, w.alloc (oneB x (.slice al x.kids.length cc)) = W1 := ⟨_, rfl⟩
    have hb1 : Below w.heap.size w W1 := by rw [← e1]; exact (Below.refl _ _).alloc (Nat.le_refl _) _
    have hq1 : W1.heap[w.heap.size]? = some (oneB x (.slice al x.kids.length cc)) := by rw [← e1]; exact palloc_new _ _
    obtain ⟨W2, e2⟩ : ∃ W2, W1.alloc (oneB x (.slice bl x.kids.length bc)) = W2 := ⟨_, rfl⟩
    have hb2 : Below W1.heap.size W1 W2 := by rw [← e2]; exact (Below.refl _ _).alloc (Nat.le_refl _) _
    have hp2 : W2.heap[W1.heap.size]? = some (oneB x (.slice bl x.kids.length bc)) := by rw [← e2]; exact palloc_new _ _
    have hq2 := blockC hq1 hb2
    have HB2 := hide (Below.then hb1 hb2)
    have HC := hide (eqf_walk x.kids al bl cc bc W2 S R hlen ((hx.belowC hb1).belowC hb2).ks ((hy.belowC hb1).belowC hb2).ks (unhide HA))
    obtain ⟨a0, a1, a2, a3, a4, a5, a6⟩ := var_cells hq2
    obtain ⟨c0, c1, c2, c3, c4, c5, c6⟩ := var_cells hp2
    clear HA hx hy hwk hb1 hq1 hb2 hp2 hq2 h
    go_enter Tryz.func18, Tryz.ntmps18
    go_wp2_with fail
    refine (unhide HC).mono ?_
    rintro e w3 ⟨rfl, hb3⟩
    have HB3 := hide (Below.then (unhide HB2) hb3)
    clear hb3 HC HB2 e1 e2 a0 a1 a2 a3 a4 a5 a6 c0 c1 c2 c3 c4 c5 c6
    go_wp2_with fail
    go_returns
    exact ⟨rfl, unhide HB3⟩
end Go.Proofs.YtnmcambbpgoodaaGreatDoor
/- xparse's judge: rightBeginning, rightPath. -/
namespace Go.Proofs.YtnmcambbpgoodaaGreatDoor
open Go.RowKit Go.Maps
def JBegC (fl : Ex → Bool) (W0 : World) (n : Nat) : Prop := ∀ (p d c : Nat) (x : Ex) (al : Option Addr) (cc : Nat) (w : World) (S : Nat → Prop) (b : Bool) (c' : Nat), JQ W0 w p c → smallX x = true → exV w S x (.slice al x.kids.length cc) → (∀ j, S j → j ≠ p) → d ≤ 100 → c ≤ 1000 → (if x.op = 0 ∨ x.op = 22 then jPart fl n d c x else jRight fl n d c x) = some (b, c') → Calls Tryz.prog 90 #[.pointer (some ⟨p, 0, none⟩), exAgg x (.slice al x.kids.length cc), .int .i64 (d : Nat)] w (outJ p w b c')
set_option maxRecDepth 100000 in
set_option maxHeartbeats 4000000 in
theorem jbeg_any (fl : Ex → Bool) (W0 : World) (n : Nat) (hP : JPartC fl W0 n) (hR : JRightC fl W0 n) : JBegC fl W0 n := by
  intro p d c x al cc w S b c' hj hz hx hS hd hc hr
  obtain ⟨W1, e1⟩ : ∃ W1, w.alloc (oneB x (.slice al x.kids.length cc)) = W1 := ⟨_, rfl⟩
  have hb : Below w.heap.size w W1 := by rw [← e1]; exact (Below.refl _ _).alloc (Nat.le_refl _) _
  have hq1 : W1.heap[w.heap.size]? = some (oneB x (.slice al x.kids.length cc)) := by rw [← e1]; exact palloc_new _ _
  have hj1 := hj.below hb
  have hx1 := hx.kept (Kq.of (S := fun _ => False) hb) (fun _ _ _ h => h)
  have HB := hide hb
  obtain ⟨a0, a1, a2, a3, a4, a5, a6⟩ := var_cells hq1
  have HRR := hide (And.intro hP hR)
  have HPQ := hide hj.lt
  clear hj hx hq1 hb hP hR
  generalize hq : w.heap.size = q at a0 a1 a2 a3 a4 a5 a6
  by_cases h0 : x.op = 0 ∨ x.op = 22
  · rw [if_pos h0] at hr
    have HC := hide ((unhide HRR).1 p d c x al cc W1 S b c' hj1 hz hx1 hS hd hc hr)
    have n1 : (((x.op : Nat) : Int) == 0) = decide (x.op = 0) := by
      by_cases h : x.op = 0
      · rw [decide_eq_true h]; exact icast_eq (by omega)
      · rw [decide_eq_false h]; exact icast_ne (by omega)
    rcases Classical.em (x.op = 0) with h1 | h1
    all_goals
      first | (have n2 : (((x.op : Nat) : Int) == 0) = true := icast_eq (by omega)) | (have n2 : (((x.op : Nat) : Int) == 0) = false := icast_ne (by omega))
      first | (have n3 : (((x.op : Nat) : Int) == 22) = true := icast_eq (by omega)) | (have n3 : (((x.op : Nat) : Int) == 22) = false := icast_ne (by omega))
      clear hj1 hz hx1 hS hd hc hr n1 h0 h1
      go_enter Tryz.func90, Tryz.ntmps90
      go_wp2_with fail
      refine (unhide HC).mono ?_
      rintro e W2 ⟨rfl, r1, r2⟩
      have HR1 := hide r1
      have HK2 := hide ((Kq.of (S := fun j => j = p) (unhide HB)).andThen r2 (fun _ _ h => h))
      clear r1 r2 HC
      go_wp2_with fail
      go_returns
      exact ⟨rfl, unhide HR1, unhide HK2⟩
  · rw [if_neg h0] at hr
    have HC := hide ((unhide HRR).2 p d c x al cc W1 S b c' hj1 hz hx1 hS hd hc hr)
    have n2 : (((x.op : Nat) : Int) == 0) = false := icast_ne (by omega)
    have n3 : (((x.op : Nat) : Int) == 22) = false := icast_ne (by omega)
    clear hj1 hz hx1 hS hd hc hr h0
    go_enter Tryz.func90, Tryz.ntmps90
    go_wp2_with fail
    refine (unhide HC).mono ?_
    rintro e W2 ⟨rfl, r1, r2⟩
    have HR1 := hide r1
    have HK2 := hide ((Kq.of (S := fun j => j = p) (unhide HB)).andThen r2 (fun _ _ h => h))
    clear r1 r2 HC
    go_wp2_with fail
    go_returns
    exact ⟨rfl, unhide HR1, unhide HK2⟩
theorem kidsIn.tail {w : World} {S : Nat → Prop} {k : Ex} {ks : List Ex} {ys : List Value} (h : kidsIn w S (k :: ks) ys) : kidsIn w S ks (ys.drop 7) := by
  rw [kidsIn] at h
  obtain ⟨a, b, rfl, h1, h2⟩ := h
  rw [List.drop_append_of_le_length (by rw [h1.len]; exact Nat.le_refl _), List.drop_eq_nil_of_le (by rw [h1.len]; exact Nat.le_refl _), List.nil_append]
  exact h2
/-- The Kids behind the first one. -/
theorem KsV.tail {w : World} {S : Nat → Prop} {k : Ex} {ks : List Ex} {g o c o' n : Nat} (h : KsV w S (k :: ks) (.slice (some ⟨g, o, none⟩) (k :: ks).length c)) (hn : n = ks.length) (ho : c = 1 ∨ o' = o + 7) : KsV w S ks (.slice (some ⟨g, o', none⟩) n (c - 1)) ∧ n ≤ c - 1 := by
  subst hn
  obtain ⟨ys, ⟨⟨a, c', e, hc⟩, h1⟩, h2⟩ := h
  cases e
  simp only [List.length_cons] at hc
  have hcl : ks.length ≤ c - 1 := Nat.le_sub_of_add_le hc
  refine ⟨⟨ys.drop 7, ⟨⟨some ⟨g, o', none⟩, c - 1, rfl, hcl⟩, fun hn => ?_⟩, h2.tail⟩, hcl⟩
  obtain ⟨g', o2, c2, e, hS, hlt, hcell⟩ := h1 (by simp)
  cases e
  have ho' : o' = o + 7 := by
    rcases ho with h | h
    · rw [h] at hcl
      exact absurd (Nat.lt_of_lt_of_le hn hcl) (Nat.lt_irrefl 0)
    · exact h
  subst ho'
  refine ⟨g, o + 7, _, rfl, hS, hlt, fun i u hu => ?_⟩
  rw [List.getElem?_drop] at hu
  have := hcell _ _ hu
  rwa [← Nat.add_assoc] at this
end Go.Proofs.YtnmcambbpgoodaaGreatDoor
