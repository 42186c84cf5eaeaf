/- Several texts, laid as one. -/
import Derived.Test.YthkkfldmoflfaaaGreatDoorGbi
/- xparse's judge: allRight. -/
namespace Go.Proofs.YthkkfldmoflfaaaGreatDoor
open Go.RowKit Go.Maps
/-- A Kid's cells in memory, where its slice lies. -/
theorem KsV.kid {w : World} {S : Nat → Prop} {ks : List Ex} {v : Value} (h : KsV w S ks v) (i : Nat) (x : Ex) (hi : ks[i]? = some x) : ∃ g o c al cc, v = .slice (some ⟨g, o, none⟩) ks.length c ∧ S g ∧ exV w S x (.slice al x.kids.length cc) ∧ ∀ j u, (exCells x (.slice al x.kids.length cc))[j]? = some u → w.cell? ⟨g, o + (i * 7 + j), none⟩ = some u := by
  obtain ⟨ys, h1, h2⟩ := h
  have hlt : i < ks.length := (List.getElem?_eq_some_iff.1 hi).1
  obtain ⟨g, o, c, e, hg, _, hc⟩ := h1.2 (by omega)
  obtain ⟨xs, h3, h4⟩ := h2.at i x hi
  cases x with
  | mk op t n a ts kk =>
    rw [exIn] at h3
    obtain ⟨h0, u, rfl, zs, h5, h6⟩ := h3
    obtain ⟨⟨al, cc, rfl, _⟩, _⟩ := id h5
    refine ⟨g, o, c, al, cc, e, hg, ⟨h0, zs, h5, h6⟩, fun j u hu => ?_⟩
    have hj : j < 7 := by
      have := (List.getElem?_eq_some_iff.1 hu).1
      simpa [exCells] using this
    exact hc (i * 7 + j) u ((h4 j hj).trans hu)
theorem small_at : ∀ (ks : List Ex), smallKs ks = true → ∀ (i : Nat) (x : Ex), ks[i]? = some x → smallX x = true
  | [], _, i, x, hi => by simp at hi
  | k :: ks, h, 0, x, hi => by
    cases hi
    exact (smallKs.head h).1
  | k :: ks, h, i + 1, x, hi => small_at ks (smallKs.head h).2 i x hi
set_option maxRecDepth 100000 in
set_option maxHeartbeats 4000000 in
theorem jall_step (fl : Ex → Bool) (W0 : World) (n : Nat) (hR : ∀ m, m ≤ n → JRightC fl W0 m) : JAllC fl W0 (n + 1) := by
  intro p d c ks al cc w S b c' hj hz hx hS hd hc hr
  have HRR := hide hR
  have HZ := hide hz
  have HS := hide hS
  have HD := hide (And.intro hd hc)
  have HR0 := hide hr
  have HJ0 := hide hj
  have HX0 := hide hx
  have HK0 := hide (Kq.refl (fun j => j = p) w)
  have HPL := hide hj.lt
  clear hR hj hz hx hS hd hc hr
  go_enter Tryz.func139, Tryz.ntmps139
  go_wp2_with fail
  go_loopg [11] (n + 1) (fun gk iv wr => gk ≤ n + 1 ∧ ∃ (k cq : Nat), iv = .int .i64 (k : Nat) ∧ k ≤ ks.length ∧ c + k ≤ cq ∧ cq ≤ 1000 ∧ Hid (jAll fl gk d cq (ks.drop k) = some (b, c')) ∧ Hid (JQ W0 wr p cq) ∧ Hid (KsV wr S ks (.slice al ks.length cc)) ∧ Hid (Kq (fun j => j = p) w wr))
  case atStart => exact ⟨Nat.le_refl _, 0, c, rfl, by omega, by omega, (unhide HD).2, by rw [List.drop_zero]; exact HR0, HJ0, HX0, HK0⟩
  case round =>
    obtain ⟨hgn, k, cq, rfl, hk, hck, hcq, HR1, HJ1, HX1, HK1⟩ := hrel
    have HGN := hide (And.intro hgn (And.intro hck hcq))
    clear hgn hck hcq HR0 HJ0 HX0 HK0
    cases gk with
    | zero =>
      have := unhide HR1
      rw [jAll] at this
      cases this
    | succ m =>
      have hr1 := unhide HR1
      clear HR1
      cases hl : ks.drop k with
      | nil =>
        rw [hl, jAll] at hr1
        cases hr1
        have n1 : decide (k < ks.length) = false := decide_eq_false (by have := List.drop_eq_nil_iff.1 hl; omega)
        clear hl hk
        go_wp2_with fail
        go_returns
        exact ⟨rfl, (unhide HJ1).jv, unhide HK1⟩
      | cons x rest =>
        have hkx : ks[k]? = some x := by
          have h0 : (ks.drop k)[0]? = some x := by rw [hl]; rfl
          rw [List.getElem?_drop] at h0
          simpa using h0
        have hrest : ks.drop (k + 1) = rest := by
          have h0 : (ks.drop k).drop 1 = rest := by rw [hl]; rfl
          rwa [List.drop_drop] at h0
        have hklt : k < ks.length := (List.getElem?_eq_some_iff.1 hkx).1
        rw [hl, jAll] at hr1
        obtain ⟨g, o, ce, al1, cc1, ev, hg, hx1, hcells⟩ := (unhide HX1).kid k x hkx
        cases ev
        have hx2 := hx1.kept (Kq.of (S := fun _ => False) ((Below.refl wr.heap.size wr).alloc (Nat.le_refl _) (oneB x (.slice al1 x.kids.length cc1)))) (fun _ _ _ h => h)
        have hj2 := (unhide HJ1).below ((Below.refl wr.heap.size wr).alloc (Nat.le_refl _) (oneB x (.slice al1 x.kids.length cc1)))
        have hk2 := (Kq.of (S := fun j => j = p) ((Below.refl wr.heap.size wr).alloc (Nat.le_refl _) (oneB x (.slice al1 x.kids.length cc1))))
        have HKR := hide ((unhide HX1).kept (Kq.of (S := fun _ => False) ((Below.refl wr.heap.size wr).alloc (Nat.le_refl _) (oneB x (.slice al1 x.kids.length cc1)))) (fun _ _ _ h => h))
        have h0 : wr.cell? ⟨g, o + k * 7, none⟩ = some (.int .i64 (x.op : Nat)) := hcells 0 _ rfl
        have h1 : wr.cell? ⟨g, o + k * 7 + 1, none⟩ = some (.string (T x.text)) := (Nat.add_assoc o (k * 7) 1) ▸ hcells 1 _ rfl
        have h2 : wr.cell? ⟨g, o + k * 7 + 2, none⟩ = some (.int .i64 0) := (Nat.add_assoc o (k * 7) 2) ▸ hcells 2 _ rfl
        have h3 : wr.cell? ⟨g, o + k * 7 + 3, none⟩ = some (.int .i64 x.num) := (Nat.add_assoc o (k * 7) 3) ▸ hcells 3 _ rfl
        have h4 : wr.cell? ⟨g, o + k * 7 + 4, none⟩ = some (.int .i64 (x.axis : Nat)) := (Nat.add_assoc o (k * 7) 4) ▸ hcells 4 _ rfl
        have h5 : wr.cell? ⟨g, o + k * 7 + 5, none⟩ = some (.int .i64 (x.test : Nat)) := (Nat.add_assoc o (k * 7) 5) ▸ hcells 5 _ rfl
        have h6 : wr.cell? ⟨g, o + k * 7 + 6, none⟩ = some (.slice al1 x.kids.length cc1) := (Nat.add_assoc o (k * 7) 6) ▸ hcells 6 _ rfl
        have HZX : Hid (smallX x = true) := hide (small_at _ (unhide HZ) k x hkx)
        have n1 : decide (k < ks.length) = true := decide_eq_true (by omega)
        have HRS := hide hrest
        clear hl hx1 hcells hrest hg hkx
        cases hjr : jRight fl m d cq x with
        | none => rw [hjr, JR.then_none] at hr1; cases hr1
        | some r =>
          obtain ⟨bb, c1⟩ := r
          have HC := hide ((unhide HRR) m (by have := (unhide HGN).1; omega) p d cq x al1 cc1 _ S bb c1 hj2 (unhide HZX) hx2 (unhide HS) (unhide HD).1 (unhide HGN).2.2 hjr)
          have HJR := hide hjr
          have HK2 := hide ((unhide HK1).andThen hk2 (fun _ _ h => h))
          have HR1 := hide hr1
          have HJ2 := hide hj2
          clear hjr hr1 hx2 hj2 hk2
          go_wp2_with fail
          refine (unhide HC).mono ?_
          rintro e w1 ⟨rfl, r1, r2⟩
          have HK3 := hide ((unhide HK2).andThen r2 (fun _ _ h => h))
          have HJ3 := hide ((unhide HJ2).go r2 r1)
          have HX3 := hide ((unhide HKR).kept r2 (fun j hj _ e => unhide HS j hj e))
          clear r1 r2 HC h0 h1 h2 h3 h4 h5 h6
          have hr1 := unhide HR1
          rw [unhide HJR] at hr1
          clear HR1
          cases bb with
          | false =>
            rw [JR.then_false] at hr1
            cases hr1
            go_wp2_with fail
            go_returns
            exact ⟨rfl, (unhide HJ3).jv, unhide HK3⟩
          | true =>
            rw [JR.then_true] at hr1
            have hcn := (j_counts fl m).2.2.1 d cq x c1 (unhide HJR)
            have HCN := hide hcn
            have HR2 := hide hr1
            have hk1000 : k + 1 ≤ 1000 := by have := unhide HGN; omega
            have w1 : IntKind.i64.wrap ((k : Int) + 1) = ((k + 1 : Nat) : Int) := by rw [wrap_small] <;> omega
            clear hr1 hcn
            go_wp2_with fail
            go_roundg m
            case measure => omega
            case rel => exact ⟨by have := unhide HGN; omega, k + 1, c1, by go_num, by omega, by have := unhide HGN; have := unhide HCN; omega, by have := unhide HCN; omega, by rw [unhide HRS]; exact HR2, HJ3, HX3, HK3⟩
end Go.Proofs.YthkkfldmoflfaaaGreatDoor
/- xparse's judge: rightBeginning, rightPath. -/
namespace Go.Proofs.YthkkfldmoflfaaaGreatDoor
open Go.RowKit Go.Maps
def JBegC (fl : Ex → Bool) (W0 : World) (n : Nat) : Prop := ∀ (p d c : Nat) (x : Ex) (al : Option Addr) (cc : Nat) (w : World) (S : Nat → Prop) (b : Bool) (c' : Nat), JQ W0 w p c → smallX x = true → exV w S x (.slice al x.kids.length cc) → (∀ j, S j → j ≠ p) → d ≤ 100 → c ≤ 1000 → (if x.op = 0 ∨ x.op = 22 then jPart fl n d c x else jRight fl n d c x) = some (b, c') → Calls Tryz.prog 158 #[.pointer (some ⟨p, 0, none⟩), exAgg x (.slice al x.kids.length cc), .int .i64 (d : Nat)] w (outJ p w b c')
set_option maxRecDepth 100000 in
set_option maxHeartbeats 4000000 in
theorem jbeg_any (fl : Ex → Bool) (W0 : World) (n : Nat) (hP : JPartC fl W0 n) (hR : JRightC fl W0 n) : JBegC fl W0 n := by
  intro p d c x al cc w S b c' hj hz hx hS hd hc hr
  obtain ⟨W1, e1⟩ : ∃ W1, w.alloc (oneB x (.slice al x.kids.length cc)) = W1 := ⟨_, rfl⟩
  have hb : Below w.heap.size w W1 := by rw [← e1]; exact (Below.refl _ _).alloc (Nat.le_refl _) _
  have hq1 : W1.heap[w.heap.size]? = some (oneB x (.slice al x.kids.length cc)) := by rw [← e1]; exact palloc_new _ _
  have hj1 := hj.below hb
  have hx1 := hx.kept (Kq.of (S := fun _ => False) hb) (fun _ _ _ h => h)
  have HB := hide hb
  obtain ⟨a0, a1, a2, a3, a4, a5, a6⟩ := var_cells hq1
  have HRR := hide (And.intro hP hR)
  have HPQ := hide hj.lt
  clear hj hx hq1 hb hP hR
  generalize hq : w.heap.size = q at a0 a1 a2 a3 a4 a5 a6
  by_cases h0 : x.op = 0 ∨ x.op = 22
  · rw [if_pos h0] at hr
    have HC := hide ((unhide HRR).1 p d c x al cc W1 S b c' hj1 hz hx1 hS hd hc hr)
    have n1 : (((x.op : Nat) : Int) == 0) = decide (x.op = 0) := by
      by_cases h : x.op = 0
      · rw [decide_eq_true h]; exact icast_eq (by omega)
      · rw [decide_eq_false h]; exact icast_ne (by omega)
    rcases Classical.em (x.op = 0) with h1 | h1
    all_goals
      first | (have n2 : (((x.op : Nat) : Int) == 0) = true := icast_eq (by omega)) | (have n2 : (((x.op : Nat) : Int) == 0) = false := icast_ne (by omega))
      first | (have n3 : (((x.op : Nat) : Int) == 22) = true := icast_eq (by omega)) | (have n3 : (((x.op : Nat) : Int) == 22) = false := icast_ne (by omega))
      clear hj1 hz hx1 hS hd hc hr n1 h0 h1
      go_enter Tryz.func158, Tryz.ntmps158
      go_wp2_with fail
      refine (unhide HC).mono ?_
      rintro e W2 ⟨rfl, r1, r2⟩
      have HR1 := hide r1
      have HK2 := hide ((Kq.of (S := fun j => j = p) (unhide HB)).andThen r2 (fun _ _ h => h))
      clear r1 r2 HC
      go_wp2_with fail
      go_returns
      exact ⟨rfl, unhide HR1, unhide HK2⟩
  · rw [if_neg h0] at hr
    have HC := hide ((unhide HRR).2 p d c x al cc W1 S b c' hj1 hz hx1 hS hd hc hr)
    have n2 : (((x.op : Nat) : Int) == 0) = false := icast_ne (by omega)
    have n3 : (((x.op : Nat) : Int) == 22) = false := icast_ne (by omega)
    clear hj1 hz hx1 hS hd hc hr h0
    go_enter Tryz.func158, Tryz.ntmps158
    go_wp2_with fail
    refine (unhide HC).mono ?_
    rintro e W2 ⟨rfl, r1, r2⟩
    have HR1 := hide r1
    have HK2 := hide ((Kq.of (S := fun j => j = p) (unhide HB)).andThen r2 (fun _ _ h => h))
    clear r1 r2 HC
    go_wp2_with fail
    go_returns
    exact ⟨rfl, unhide HR1, unhide HK2⟩
theorem kidsIn.tail {w : World} {S : Nat → Prop} {k : Ex} {ks : List Ex} {ys : List Value} (h : kidsIn w S (k :: ks) ys) : kidsIn w S ks (ys.drop 7) := by
  rw [kidsIn] at h
  obtain ⟨a, b, rfl, h1, h2⟩ := h
  rw [List.drop_append_of_le_length (by rw [h1.len]; exact Nat.le_refl _), List.drop_eq_nil_of_le (by rw [h1.len]; exact Nat.le_refl _), List.nil_append]
  exact h2
/-- The Kids behind the first one. -/
theorem KsV.tail {w : World} {S : Nat → Prop} {k : Ex} {ks : List Ex} {g o c o' n : Nat} (h : KsV w S (k :: ks) (.slice (some ⟨g, o, none⟩) (k :: ks).length c)) (hn : n = ks.length) (ho : c = 1 ∨ o' = o + 7) : KsV w S ks (.slice (some ⟨g, o', none⟩) n (c - 1)) ∧ n ≤ c - 1 := by
  subst hn
  obtain ⟨ys, ⟨⟨a, c', e, hc⟩, h1⟩, h2⟩ := h
  cases e
  simp only [List.length_cons] at hc
  have hcl : ks.length ≤ c - 1 := Nat.le_sub_of_add_le hc
  refine ⟨⟨ys.drop 7, ⟨⟨some ⟨g, o', none⟩, c - 1, rfl, hcl⟩, fun hn => ?_⟩, h2.tail⟩, hcl⟩
  obtain ⟨g', o2, c2, e, hS, hlt, hcell⟩ := h1 (by simp)
  cases e
  have ho' : o' = o + 7 := by
    rcases ho with h | h
    · rw [h] at hcl
      exact absurd (Nat.lt_of_lt_of_le hn hcl) (Nat.lt_irrefl 0)
    · exact h
  subst ho'
  refine ⟨g, o + 7, _, rfl, hS, hlt, fun i u hu => ?_⟩
  rw [List.getElem?_drop] at hu
  have := hcell _ _ hu
  rwa [← Nat.add_assoc] at this
end Go.Proofs.YthkkfldmoflfaaaGreatDoor
/- xparse's judge: rightPath. -/
namespace Go.Proofs.YthkkfldmoflfaaaGreatDoor
open Go.RowKit Go.Maps
theorem jbeg_count {fl : Ex → Bool} {n d c c1 : Nat} {x : Ex} (h : (if x.op = 0 ∨ x.op = 22 then jPart fl n d c x else jRight fl n d c x) = some (true, c1)) : c + 1 ≤ c1 ∧ c1 ≤ 512 := by
  split at h
  · exact (j_counts fl n).1 _ _ _ _ h
  · exact (j_counts fl n).2.2.1 _ _ _ _ h
/-- The loop over the Kids behind the first one. -/
def JStepsL (fl : Ex → Bool) (W0 w : World) (p d c' : Nat) (S : Nat → Prop) (b : Bool) (n : Nat) (v : Value) (rest : List Ex) (gk : Nat) (iv : Value) (wr : World) : Prop :=
  gk ≤ n ∧ ∃ (k cq : Nat), iv = .int .i64 (k : Nat) ∧ k ≤ rest.length ∧ k ≤ cq ∧ cq ≤ 1000 ∧ Hid (jSteps fl gk d cq (rest.drop k) = some (b, c')) ∧ Hid (JQ W0 wr p cq) ∧ Hid (KsV wr S rest v) ∧ Hid (Kq (fun j => j = p) w wr)
set_option maxRecDepth 100000 in
set_option maxHeartbeats 1000000 in
theorem jpath_step (fl : Ex → Bool) (W0 : World) (n : Nat) (hB : JBegC fl W0 n) (hP : ∀ m, m ≤ n → JPartC fl W0 m) : JPathC fl W0 (n + 1) := by
  intro p d c ks al cc w S b c' hj hz hx hS hd hc hr
  cases ks with
  | nil =>
    rw [jPath] at hr
    cases hr
    clear hB hP hx
    go_enter Tryz.func138, Tryz.ntmps138
    go_wp2_with fail
    go_returns
    exact ⟨rfl, hj.jv, Kq.refl _ _⟩
  | cons k rest =>
    rw [jPath] at hr
    obtain ⟨g, o, ce, al1, cc1, ev, hg, hx1, hcells⟩ := hx.kid 0 k rfl
    cases ev
    have hcap : (k :: rest).length ≤ cc := by
      obtain ⟨ys, ⟨⟨a, c9, e, hc9⟩, _⟩, _⟩ := id hx
      cases e
      exact hc9
    have h0 : w.cell? ⟨g, o, none⟩ = some (.int .i64 (k.op : Nat)) := by simpa using hcells 0 _ rfl
    have h1 : w.cell? ⟨g, o + 1, none⟩ = some (.string (T k.text)) := by simpa using hcells 1 _ rfl
    have h2 : w.cell? ⟨g, o + 2, none⟩ = some (.int .i64 0) := by simpa using hcells 2 _ rfl
    have h3 : w.cell? ⟨g, o + 3, none⟩ = some (.int .i64 k.num) := by simpa using hcells 3 _ rfl
    have h4 : w.cell? ⟨g, o + 4, none⟩ = some (.int .i64 (k.axis : Nat)) := by simpa using hcells 4 _ rfl
    have h5 : w.cell? ⟨g, o + 5, none⟩ = some (.int .i64 (k.test : Nat)) := by simpa using hcells 5 _ rfl
    have h6 : w.cell? ⟨g, o + 6, none⟩ = some (.slice al1 k.kids.length cc1) := by simpa using hcells 6 _ rfl
    obtain ⟨N, eN⟩ : ∃ N, (k :: rest).length = N := ⟨_, rfl⟩
    have hN : N = rest.length + 1 := eN.symm
    have n0 : (((N : Nat) : Int) == 0) = false := icast_ne (by omega)
    by_cases hone : rest = [] ∧ k.op ≠ 22
    · rw [if_pos hone] at hr
      cases hr
      rw [eN]
      have n1 : (((N : Nat) : Int) == 1) = true := icast_eq (by rw [hN, hone.1]; rfl)
      have n2 : (((k.op : Nat) : Int) == 22) = false := icast_ne (by have := hone.2; omega)
      have n3 : decide ((0 : Int) < (N : Int)) = true := decide_eq_true (by omega)
      have n4 : 0 < N := by omega
      clear hB hP hx hx1 hcells hone eN hz hcap
      go_enter Tryz.func138, Tryz.ntmps138
      go_wp2_with fail
      go_returns
      exact ⟨rfl, hj.jv, Kq.refl _ _⟩
    · rw [if_neg hone] at hr
      have hzz := smallKs.head hz
      cases hjr : (if k.op = 0 ∨ k.op = 22 then jPart fl n d c k else jRight fl n d c k) with
      | none => rw [hjr, JR.then_none] at hr; cases hr
      | some r =>
        obtain ⟨bb, c1⟩ := r
        rw [hjr] at hr
        have HC := hide (hB p d c k al1 cc1 w S bb c1 hj hzz.1 hx1 hS hd hc hjr)
        have HJ0 := hide hj
        have HX0 := hide hx
        have HS := hide hS
        have HD := hide (And.intro hd hc)
        have HPP := hide hP
        have HZ := hide hzz.2
        have HR := hide hr
        have HCC := hide (show bb = true → c + 1 ≤ c1 ∧ c1 ≤ 512 from fun e => by rw [e] at hjr; exact jbeg_count hjr)
        have hm1 : (rest = [] ∧ (((N : Nat) : Int) == 1) = true ∧ (((k.op : Nat) : Int) == 22) = true) ∨ (rest ≠ [] ∧ (((N : Nat) : Int) == 1) = false) := by
          by_cases hr0 : rest = []
          · refine .inl ⟨hr0, icast_eq (by rw [hN, hr0]; rfl), icast_eq ?_⟩
            by_cases h22 : k.op = 22
            · rw [h22]; rfl
            · exact absurd ⟨hr0, h22⟩ hone
          · refine .inr ⟨hr0, icast_ne ?_⟩
            cases rest with
            | nil => exact absurd rfl hr0
            | cons _ _ => rw [hN]; simp; omega
        have n3 : decide ((0 : Int) < (N : Int)) = true := decide_eq_true (by omega)
        have n4 : 0 < N := by omega
        have HCAP := hide hcap
        have HEN := hide eN
        rw [eN]
        rw [eN] at hcap
        clear hB hP hj hx hS hd hc hcells hone eN hz hzz hr hjr hx1
        have HHN := hide hN
        clear hN
        rcases hm1 with ⟨hr0, n1, n2⟩ | ⟨hr0, n1⟩
        all_goals
          have HR0 := hide hr0
          clear hr0
          go_enter Tryz.func138, Tryz.ntmps138
          go_wp2_with fail
          refine (unhide HC).mono ?_
          rintro e w1 ⟨rfl, r1, r2⟩
          have HK3 := hide r2
          have HJ3 := hide ((unhide HJ0).go r2 r1)
          have HX3 := hide ((unhide HX0).kept r2 (fun j hj _ e => unhide HS j hj e))
          clear r1 r2 HC h0 h1 h2 h3 h4 h5 h6
          cases bb with
          | false =>
            have hr := unhide HR
            rw [JR.then_false] at hr
            cases hr
            go_wp2_with fail
            go_returns
            exact ⟨rfl, (unhide HJ3).jv, unhide HK3⟩
          | true =>
            have hr := unhide HR
            rw [JR.then_true] at hr
            have HR1 := hide hr
            clear hr HR
            have hsl : (1 : Int) ≤ (N : Int) := by have := unhide HHN; omega
            go_wp2_with fail
            · subst h
              have HX4 := hide (((unhide HX3).tail (n := N - 1) (o' := o) (by have := unhide HHN; omega) (.inl rfl)).1)
              generalize hM : N - 1 = M at HX4 ⊢
              obtain rfl : M = rest.length := by have := unhide HHN; omega
              clear hM hcap HCAP HX0 HX3 HJ0 n0 n1 n3 n4 hsl
              go_loopg [34] n (fun gk iv wr => JStepsL fl W0 w p d c' S b n (.slice (some ⟨g, o, none⟩) rest.length 0) rest gk iv wr)
              case atStart => exact ⟨Nat.le_refl _, 0, c1, rfl, by omega, by omega, by have := (unhide HCC) trivial; omega, by rw [List.drop_zero]; exact HR1, HJ3, HX4, HK3⟩
              case round =>
                clear HR1 HJ3 HX4 HK3
                obtain ⟨hgn, k0, cq, rfl, hk, hck, hcq, HR1, HJ1, HX1, HK1⟩ := hrel
                have HGN := hide (And.intro hgn (And.intro hck hcq))
                clear hgn hck hcq
                cases gk with
                | zero =>
                  have := unhide HR1
                  rw [jSteps] at this
                  cases this
                | succ m =>
                  have hr1 := unhide HR1
                  clear HR1
                  cases hl : rest.drop k0 with
                  | nil =>
                    rw [hl, jSteps] at hr1
                    cases hr1
                    have n1 : decide (k0 < rest.length) = false := decide_eq_false (by have := List.drop_eq_nil_iff.1 hl; omega)
                    clear hl hk
                    go_wp2_with fail
                    go_returns
                    exact ⟨rfl, (unhide HJ1).jv, unhide HK1⟩
                  | cons x rest2 =>
                    have hkx : rest[k0]? = some x := by
                      have h0 : (rest.drop k0)[0]? = some x := by rw [hl]; rfl
                      rw [List.getElem?_drop] at h0
                      simpa using h0
                    have hrest : rest.drop (k0 + 1) = rest2 := by
                      have h0 : (rest.drop k0).drop 1 = rest2 := by rw [hl]; rfl
                      rwa [List.drop_drop] at h0
                    have hklt : k0 < rest.length := (List.getElem?_eq_some_iff.1 hkx).1
                    rw [hl, jSteps] at hr1
                    obtain ⟨g, o, ce, al1, cc1, ev, hg, hx1, hcells⟩ := (unhide HX1).kid k0 x hkx
                    cases ev
                    have hx2 := hx1.kept (Kq.of (S := fun _ => False) ((Below.refl wr.heap.size wr).alloc (Nat.le_refl _) (oneB x (.slice al1 x.kids.length cc1)))) (fun _ _ _ h => h)
                    have hj2 := (unhide HJ1).below ((Below.refl wr.heap.size wr).alloc (Nat.le_refl _) (oneB x (.slice al1 x.kids.length cc1)))
                    have hk2 := (Kq.of (S := fun j => j = p) ((Below.refl wr.heap.size wr).alloc (Nat.le_refl _) (oneB x (.slice al1 x.kids.length cc1))))
                    have HKR := hide ((unhide HX1).kept (Kq.of (S := fun _ => False) ((Below.refl wr.heap.size wr).alloc (Nat.le_refl _) (oneB x (.slice al1 x.kids.length cc1)))) (fun _ _ _ h => h))
                    have h0 : wr.cell? ⟨g, o + k0 * 7, none⟩ = some (.int .i64 (x.op : Nat)) := hcells 0 _ rfl
                    have h1 : wr.cell? ⟨g, o + k0 * 7 + 1, none⟩ = some (.string (T x.text)) := (Nat.add_assoc (o) (k0 * 7) 1) ▸ hcells 1 _ rfl
                    have h2 : wr.cell? ⟨g, o + k0 * 7 + 2, none⟩ = some (.int .i64 0) := (Nat.add_assoc (o) (k0 * 7) 2) ▸ hcells 2 _ rfl
                    have h3 : wr.cell? ⟨g, o + k0 * 7 + 3, none⟩ = some (.int .i64 x.num) := (Nat.add_assoc (o) (k0 * 7) 3) ▸ hcells 3 _ rfl
                    have h4 : wr.cell? ⟨g, o + k0 * 7 + 4, none⟩ = some (.int .i64 (x.axis : Nat)) := (Nat.add_assoc (o) (k0 * 7) 4) ▸ hcells 4 _ rfl
                    have h5 : wr.cell? ⟨g, o + k0 * 7 + 5, none⟩ = some (.int .i64 (x.test : Nat)) := (Nat.add_assoc (o) (k0 * 7) 5) ▸ hcells 5 _ rfl
                    have h6 : wr.cell? ⟨g, o + k0 * 7 + 6, none⟩ = some (.slice al1 x.kids.length cc1) := (Nat.add_assoc (o) (k0 * 7) 6) ▸ hcells 6 _ rfl
                    have HZX : Hid (smallX x = true) := hide (small_at _ (unhide HZ) k0 x hkx)
                    have n1 : decide (k0 < rest.length) = true := decide_eq_true (by omega)
                    have HRS := hide hrest
                    clear hl hx1 hcells hrest hg hkx
                    by_cases h23 : x.op = 23
                    · rw [if_pos h23] at hr1
                      have n2 : (((x.op : Nat) : Int) == 23) = true := icast_eq (by omega)
                      have n5 : (((x.op : Nat) : Int) != 23) = false := by rw [bne, n2]; rfl
                      clear h23
                      cases hjr : jPart fl m d cq x with
                      | none => rw [hjr, JR.then_none] at hr1; cases hr1
                      | some r =>
                        obtain ⟨bb, c9⟩ := r
                        have HC := hide ((unhide HPP) m (by have := (unhide HGN).1; omega) p d cq x al1 cc1 _ S bb c9 hj2 (unhide HZX) hx2 (unhide HS) (unhide HD).1 (unhide HGN).2.2 hjr)
                        have HJR := hide hjr
                        have HK2 := hide ((unhide HK1).andThen hk2 (fun _ _ h => h))
                        have HR1 := hide hr1
                        have HJ2 := hide hj2
                        clear hjr hr1 hx2 hj2 hk2
                        go_wp2_with fail
                        refine (unhide HC).mono ?_
                        rintro e w1 ⟨rfl, r1, r2⟩
                        have HK3 := hide ((unhide HK2).andThen r2 (fun _ _ h => h))
                        have HJ3 := hide ((unhide HJ2).go r2 r1)
                        have HX3 := hide ((unhide HKR).kept r2 (fun j hj _ e => unhide HS j hj e))
                        clear r1 r2 HC h0 h1 h2 h3 h4 h5 h6
                        have hr1 := unhide HR1
                        rw [unhide HJR] at hr1
                        clear HR1
                        cases bb with
                        | false =>
                          rw [JR.then_false] at hr1
                          cases hr1
                          go_wp2_with fail
                          go_returns
                          exact ⟨rfl, (unhide HJ3).jv, unhide HK3⟩
                        | true =>
                          rw [JR.then_true] at hr1
                          have hcn := (j_counts fl m).1 d cq x c9 (unhide HJR)
                          have HCN := hide hcn
                          have HR2 := hide hr1
                          have hk1000 : k0 + 1 ≤ 1000 := by have := unhide HGN; omega
                          have w1 : IntKind.i64.wrap ((k0 : Int) + 1) = ((k0 + 1 : Nat) : Int) := by rw [wrap_small] <;> omega
                          clear hr1 hcn
                          go_wp2_with fail
                          go_roundg m
                          case measure => omega
                          case rel => exact ⟨by have := unhide HGN; omega, k0 + 1, c9, by go_num, by omega, by have := unhide HGN; have := unhide HCN; omega, by have := unhide HCN; omega, by rw [unhide HRS]; exact HR2, HJ3, HX3, HK3⟩
                    · rw [if_neg h23] at hr1
                      cases hr1
                      have n2 : (((x.op : Nat) : Int) == 23) = false := icast_ne (by omega)
                      have n5 : (((x.op : Nat) : Int) != 23) = true := by rw [bne, n2]; rfl
                      have HK2 := hide ((unhide HK1).andThen hk2 (fun _ _ h => h))
                      have HJ2 := hide hj2
                      clear h23 hx2 hj2 hk2
                      go_wp2_with fail
                      go_returns
                      exact ⟨rfl, (unhide HJ2).jv, unhide HK2⟩
            · skip
              have HX4 := hide (((unhide HX3).tail (n := N - 1) (o' := o + 7) (by have := unhide HHN; omega) (.inr rfl)).1)
              generalize hO : o + 7 = o9 at HX4 ⊢
              generalize hC : cc - 1 = c8 at HX4 ⊢
              generalize hM : N - 1 = M at HX4 ⊢
              obtain rfl : M = rest.length := by have := unhide HHN; omega
              clear hM hO hC hcap HCAP HX0 HX3 HJ0 n0 n1 n3 n4 hsl
              go_loopg [34] n (fun gk iv wr => JStepsL fl W0 w p d c' S b n (.slice (some ⟨g, o9, none⟩) rest.length c8) rest gk iv wr)
              case atStart => exact ⟨Nat.le_refl _, 0, c1, rfl, by omega, by omega, by have := (unhide HCC) trivial; omega, by rw [List.drop_zero]; exact HR1, HJ3, HX4, HK3⟩
              case round =>
                clear HR1 HJ3 HX4 HK3
                obtain ⟨hgn, k0, cq, rfl, hk, hck, hcq, HR1, HJ1, HX1, HK1⟩ := hrel
                have HGN := hide (And.intro hgn (And.intro hck hcq))
                clear hgn hck hcq
                cases gk with
                | zero =>
                  have := unhide HR1
                  rw [jSteps] at this
                  cases this
                | succ m =>
                  have hr1 := unhide HR1
                  clear HR1
                  cases hl : rest.drop k0 with
                  | nil =>
                    rw [hl, jSteps] at hr1
                    cases hr1
                    have n1 : decide (k0 < rest.length) = false := decide_eq_false (by have := List.drop_eq_nil_iff.1 hl; omega)
                    clear hl hk
                    go_wp2_with fail
                    go_returns
                    exact ⟨rfl, (unhide HJ1).jv, unhide HK1⟩
                  | cons x rest2 =>
                    have hkx : rest[k0]? = some x := by
                      have h0 : (rest.drop k0)[0]? = some x := by rw [hl]; rfl
                      rw [List.getElem?_drop] at h0
                      simpa using h0
                    have hrest : rest.drop (k0 + 1) = rest2 := by
                      have h0 : (rest.drop k0).drop 1 = rest2 := by rw [hl]; rfl
                      rwa [List.drop_drop] at h0
                    have hklt : k0 < rest.length := (List.getElem?_eq_some_iff.1 hkx).1
                    rw [hl, jSteps] at hr1
                    obtain ⟨g, o, ce, al1, cc1, ev, hg, hx1, hcells⟩ := (unhide HX1).kid k0 x hkx
                    cases ev
                    have hx2 := hx1.kept (Kq.of (S := fun _ => False) ((Below.refl wr.heap.size wr).alloc (Nat.le_refl _) (oneB x (.slice al1 x.kids.length cc1)))) (fun _ _ _ h => h)
                    have hj2 := (unhide HJ1).below ((Below.refl wr.heap.size wr).alloc (Nat.le_refl _) (oneB x (.slice al1 x.kids.length cc1)))
                    have hk2 := (Kq.of (S := fun j => j = p) ((Below.refl wr.heap.size wr).alloc (Nat.le_refl _) (oneB x (.slice al1 x.kids.length cc1))))
                    have HKR := hide ((unhide HX1).kept (Kq.of (S := fun _ => False) ((Below.refl wr.heap.size wr).alloc (Nat.le_refl _) (oneB x (.slice al1 x.kids.length cc1)))) (fun _ _ _ h => h))
                    have h0 : wr.cell? ⟨g, o9 + k0 * 7, none⟩ = some (.int .i64 (x.op : Nat)) := hcells 0 _ rfl
                    have h1 : wr.cell? ⟨g, o9 + k0 * 7 + 1, none⟩ = some (.string (T x.text)) := (Nat.add_assoc o9 (k0 * 7) 1) ▸ hcells 1 _ rfl
                    have h2 : wr.cell? ⟨g, o9 + k0 * 7 + 2, none⟩ = some (.int .i64 0) := (Nat.add_assoc o9 (k0 * 7) 2) ▸ hcells 2 _ rfl
                    have h3 : wr.cell? ⟨g, o9 + k0 * 7 + 3, none⟩ = some (.int .i64 x.num) := (Nat.add_assoc o9 (k0 * 7) 3) ▸ hcells 3 _ rfl
                    have h4 : wr.cell? ⟨g, o9 + k0 * 7 + 4, none⟩ = some (.int .i64 (x.axis : Nat)) := (Nat.add_assoc o9 (k0 * 7) 4) ▸ hcells 4 _ rfl
                    have h5 : wr.cell? ⟨g, o9 + k0 * 7 + 5, none⟩ = some (.int .i64 (x.test : Nat)) := (Nat.add_assoc o9 (k0 * 7) 5) ▸ hcells 5 _ rfl
                    have h6 : wr.cell? ⟨g, o9 + k0 * 7 + 6, none⟩ = some (.slice al1 x.kids.length cc1) := (Nat.add_assoc o9 (k0 * 7) 6) ▸ hcells 6 _ rfl
                    have HZX : Hid (smallX x = true) := hide (small_at _ (unhide HZ) k0 x hkx)
                    have n1 : decide (k0 < rest.length) = true := decide_eq_true (by omega)
                    have HRS := hide hrest
                    clear hl hx1 hcells hrest hg hkx
                    by_cases h23 : x.op = 23
                    · rw [if_pos h23] at hr1
                      have n2 : (((x.op : Nat) : Int) == 23) = true := icast_eq (by omega)
                      have n5 : (((x.op : Nat) : Int) != 23) = false := by rw [bne, n2]; rfl
                      clear h23
                      cases hjr : jPart fl m d cq x with
                      | none => rw [hjr, JR.then_none] at hr1; cases hr1
                      | some r =>
                        obtain ⟨bb, c9⟩ := r
                        have HC := hide ((unhide HPP) m (by have := (unhide HGN).1; omega) p d cq x al1 cc1 _ S bb c9 hj2 (unhide HZX) hx2 (unhide HS) (unhide HD).1 (unhide HGN).2.2 hjr)
                        have HJR := hide hjr
                        have HK2 := hide ((unhide HK1).andThen hk2 (fun _ _ h => h))
                        have HR1 := hide hr1
                        have HJ2 := hide hj2
                        clear hjr hr1 hx2 hj2 hk2
                        go_wp2_with fail
                        refine (unhide HC).mono ?_
                        rintro e w1 ⟨rfl, r1, r2⟩
                        have HK3 := hide ((unhide HK2).andThen r2 (fun _ _ h => h))
                        have HJ3 := hide ((unhide HJ2).go r2 r1)
                        have HX3 := hide ((unhide HKR).kept r2 (fun j hj _ e => unhide HS j hj e))
                        clear r1 r2 HC h0 h1 h2 h3 h4 h5 h6
                        have hr1 := unhide HR1
                        rw [unhide HJR] at hr1
                        clear HR1
                        cases bb with
                        | false =>
                          rw [JR.then_false] at hr1
                          cases hr1
                          go_wp2_with fail
                          go_returns
                          exact ⟨rfl, (unhide HJ3).jv, unhide HK3⟩
                        | true =>
                          rw [JR.then_true] at hr1
                          have hcn := (j_counts fl m).1 d cq x c9 (unhide HJR)
                          have HCN := hide hcn
                          have HR2 := hide hr1
                          have hk1000 : k0 + 1 ≤ 1000 := by have := unhide HGN; omega
                          have w1 : IntKind.i64.wrap ((k0 : Int) + 1) = ((k0 + 1 : Nat) : Int) := by rw [wrap_small] <;> omega
                          clear hr1 hcn
                          go_wp2_with fail
                          go_roundg m
                          case measure => omega
                          case rel => exact ⟨by have := unhide HGN; omega, k0 + 1, c9, by go_num, by omega, by have := unhide HGN; have := unhide HCN; omega, by have := unhide HCN; omega, by rw [unhide HRS]; exact HR2, HJ3, HX3, HK3⟩
                    · rw [if_neg h23] at hr1
                      cases hr1
                      have n2 : (((x.op : Nat) : Int) == 23) = false := icast_ne (by omega)
                      have n5 : (((x.op : Nat) : Int) != 23) = true := by rw [bne, n2]; rfl
                      have HK2 := hide ((unhide HK1).andThen hk2 (fun _ _ h => h))
                      have HJ2 := hide hj2
                      clear h23 hx2 hj2 hk2
                      go_wp2_with fail
                      go_returns
                      exact ⟨rfl, (unhide HJ2).jv, unhide HK2⟩
end Go.Proofs.YthkkfldmoflfaaaGreatDoor
