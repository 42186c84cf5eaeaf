/- Several texts, laid as one. -/
import Derived.Test.YtnmcambbpgoodaaGreatDoorParR6
import Derived.Test.YtnmcambbpgoodaaGreatDoorParX2
import Derived.Test.YtnmcambbpgoodaaGreatDoorGav
/- Whether an expression is right: xparse's Size and Right, of what is. -/
namespace Go.Proofs.YtnmcambbpgoodaaGreatDoor
open Go.RowKit Go.Maps
structure JAny (fl : Ex → Bool) (W0 : World) (n : Nat) : Prop where
  part : JPartC fl W0 n
  kids : JKidsC fl W0 n
  right : JRightC fl W0 n
  all : JAllC fl W0 n
  path : JPathC fl W0 n
theorem JAny.zero (fl : Ex → Bool) (W0 : World) : JAny fl W0 0 where
  part := fun p d c x al cc w S b c' _ _ _ _ _ _ h => by rw [jPart] at h; cases h
  kids := fun p d c x al cc w S b c' _ _ _ _ _ _ h => by rw [jKids] at h; cases h
  right := fun p d c x al cc w S b c' _ _ _ _ _ _ h => by rw [jRight] at h; cases h
  all := fun p d c x al cc w S b c' _ _ _ _ _ _ h => by rw [jAll] at h; cases h
  path := fun p d c x al cc w S b c' _ _ _ _ _ _ h => by rw [jPath] at h; cases h
theorem jany (fl : Ex → Bool) (W0 : World) (hF : FieldsC fl W0) : ∀ n m, m ≤ n → JAny fl W0 m
  | 0, m, h => by
    obtain rfl : m = 0 := by omega
    exact JAny.zero fl W0
  | n + 1, m, h => by
    have ih := jany fl W0 hF n
    by_cases hm : m ≤ n
    · exact ih m hm
    · obtain rfl : m = n + 1 := by omega
      have h1 := ih n (Nat.le_refl n)
      exact ⟨jpart_step fl W0 n hF h1.kids, jkids_step fl W0 n h1.all h1.path, jright_step fl W0 n h1.part, jall_step fl W0 n (fun m hm => (ih m hm).right), jpath_step fl W0 n (jbeg_any fl W0 n h1.part h1.right) (fun m hm => (ih m hm).part)⟩
set_option maxRecDepth 100000 in
set_option maxHeartbeats 4000000 in
theorem psize_ok (W0 : World) (hG : EnvG W0) (n c' : Nat) (x : Ex) (al : Option Addr) (cc : Nat) (w : World) (S : Nat → Prop) (hb : Below W0.heap.size W0 w) (hz : smallX x = true) (hx : exV w S x (.slice al x.kids.length cc)) (hr : jRight flX n 0 0 x = some (true, c')) :
    Calls Tryz.prog 10 #[exAgg x (.slice al x.kids.length cc)] w fun e w' => e = .returned (.int .i64 (c' : Nat)) ∧ Below w.heap.size w w' := by
  obtain ⟨W1, e1⟩ : ∃ W1, w.alloc (oneB x (.slice al x.kids.length cc)) = W1 := ⟨_, rfl⟩
  have hb1 : Below w.heap.size w W1 := by rw [← e1]; exact (Below.refl _ _).alloc (Nat.le_refl _) _
  have hq1 : W1.heap[w.heap.size]? = some (oneB x (.slice al x.kids.length cc)) := by rw [← e1]; exact palloc_new _ _
  obtain ⟨W2, e2⟩ : ∃ W2, W1.alloc (.cells #[.int .i64 0] 63) = W2 := ⟨_, rfl⟩
  have hb2 : Below W1.heap.size W1 W2 := by rw [← e2]; exact (Below.refl _ _).alloc (Nat.le_refl _) _
  have hj : JV W2 W1.heap.size 0 := by rw [← e2]; exact palloc_new _ _
  have hq2 := blockK (Kq.of (S := fun _ => False) hb2) hq1 (fun h => h)
  have hx2 := ((hx.kept (Kq.of (S := fun _ => False) hb1) (fun _ _ _ h => h)).bound).kept (Kq.of (S := fun _ => False) hb2) (fun _ _ _ h => h)
  have hlt : w.heap.size < W1.heap.size := (Array.getElem?_eq_some_iff.1 hq1).1
  have hJQ : JQ W0 W2 W1.heap.size 0 := ⟨hj, by have := hb.size; omega, hb.trans ((Below.then hb1 hb2).mono hb.size)⟩
  have hC := (jany flX W0 (pfields_any W0 hG) n n (Nat.le_refl n)).right W1.heap.size 0 0 x al cc W2 _ true c' hJQ hz hx2 (fun j hj => by omega) (by omega) (by omega) hr
  rw [show ((0 : Nat) : Int) = 0 from rfl] at hC
  have HC := hide hC
  have HB2 := hide (Below.then hb1 hb2)
  have HLT := hide hlt
  obtain ⟨a0, a1, a2, a3, a4, a5, a6⟩ := var_cells hq2
  generalize hp : W1.heap.size = p at HC hlt
  have HPW := hide hp
  clear hC hb1 hq1 hb2 hj hq2 hx2 hJQ hb hz hx hr hG hlt
  go_enter Tryz.func10, Tryz.ntmps10
  go_wp2_with fail
  refine (unhide HC).mono ?_
  rintro e w3 ⟨rfl, r1, r2⟩
  have c0 : w3.cell? ⟨p, 0, none⟩ = some (.int .i64 (c' : Nat)) := pcell r1 0
  have HB3 := hide (Kq.fresh ((Kq.of (S := fun j => j = p) (unhide HB2)).andThen r2 (fun _ _ h => h)) (fun j hj => by have := unhide HLT; have := unhide HPW; omega))
  clear r1 r2 HC a0 a1 a2 a3 a4 a5 a6
  go_wp2_with fail
  go_returns
  exact ⟨rfl, unhide HB3⟩
theorem jright_pos {n c' : Nat} {x : Ex} {fl : Ex → Bool} (hr : jRight fl n 0 0 x = some (true, c')) : 1 ≤ c' ∧ c' ≤ 512 := by
  have := (j_counts fl n).2.2.1 _ _ _ _ hr
  omega
set_option maxRecDepth 100000 in
set_option maxHeartbeats 4000000 in
theorem pright_ok (W0 : World) (hG : EnvG W0) (n c' : Nat) (x : Ex) (al : Option Addr) (cc : Nat) (w : World) (S : Nat → Prop) (hb : Below W0.heap.size W0 w) (hz : smallX x = true) (hx : exV w S x (.slice al x.kids.length cc)) (hr : jRight flX n 0 0 x = some (true, c')) :
    Calls Tryz.prog 9 #[exAgg x (.slice al x.kids.length cc)] w fun e w' => e = .returned (.bool true) ∧ Below w.heap.size w w' := by
  obtain ⟨W1, e1⟩ : ∃ W1, w.alloc (oneB x (.slice al x.kids.length cc)) = W1 := ⟨_, rfl⟩
  have hb1 : Below w.heap.size w W1 := by rw [← e1]; exact (Below.refl _ _).alloc (Nat.le_refl _) _
  have hq1 : W1.heap[w.heap.size]? = some (oneB x (.slice al x.kids.length cc)) := by rw [← e1]; exact palloc_new _ _
  have hx1 := hx.kept (Kq.of (S := fun _ => False) hb1) (fun _ _ _ h => h)
  have HC := hide (psize_ok W0 hG n c' x al cc W1 S (hb.trans (hb1.mono hb.size)) hz hx1 hr)
  have hp := jright_pos hr
  have HPOS := hide (show 0 < c' by omega)
  have HB1 := hide hb1
  obtain ⟨a0, a1, a2, a3, a4, a5, a6⟩ := var_cells hq1
  clear hb1 hq1 hx1 hb hz hx hr hG hp
  go_enter Tryz.func9, Tryz.ntmps9
  go_wp2_with fail
  refine (unhide HC).mono ?_
  rintro e w3 ⟨rfl, r1⟩
  have HB3 := hide (Below.then (unhide HB1) r1)
  clear r1 HC a0 a1 a2 a3 a4 a5 a6
  go_wp2_with fail
  go_returns
  exact ⟨ret_bool (decide_eq_true (unhide HPOS)), unhide HB3⟩
end Go.Proofs.YtnmcambbpgoodaaGreatDoor
/- xparse's Same, at two copies of one expression that is right. -/
namespace Go.Proofs.YtnmcambbpgoodaaGreatDoor
open Go.RowKit Go.Maps
/-- What the judge takes is not great. -/
theorem j_wt (fl : Ex → Bool) : ∀ n, (∀ d c e c', jPart fl n d c e = some (true, c') → wt e + 8 * c + 1 ≤ 8 * c') ∧ (∀ d c e c', jKids fl n d c e = some (true, c') → wtKs e.kids + 8 * c ≤ 8 * c' + 1) ∧ (∀ d c e c', jRight fl n d c e = some (true, c') → wt e + 8 * c + 1 ≤ 8 * c') ∧ (∀ d c ks c', jAll fl n d c ks = some (true, c') → wtKs ks + 8 * c ≤ 8 * c' + 1) ∧ (∀ d c ks c', jSteps fl n d c ks = some (true, c') → wtKs ks + 8 * c ≤ 8 * c' + 1) ∧ (∀ d c ks c', jPath fl n d c ks = some (true, c') → wtKs ks + 8 * c ≤ 8 * c' + 1)
  | 0 => by
    refine ⟨?_, ?_, ?_, ?_, ?_, ?_⟩ <;> (intros; rename_i h; simp [jPart, jKids, jRight, jAll, jSteps, jPath] at h)
  | n + 1 => by
    obtain ⟨i1, i2, i3, i4, i5, i6⟩ := j_wt fl n
    refine ⟨?_, ?_, ?_, ?_, ?_, ?_⟩
    · intro d c e c' h
      rw [jPart] at h
      split at h
      · have := i2 _ _ _ _ h
        have := wt_kids e
        omega
      · cases h
    · intro d c e c' h
      rw [jKids] at h
      split at h
      · exact i6 _ _ _ _ h
      · split at h
        · exact i4 _ _ _ _ h
        · cases h
    · intro d c e c' h
      rw [jRight] at h
      split at h
      · exact i1 _ _ _ _ h
      · cases h
    · intro d c ks c' h
      cases ks with
      | nil => rw [jAll] at h; cases h; rw [wtKs]; omega
      | cons k ks =>
        rw [jAll] at h
        obtain ⟨c1, h1, h2⟩ := JR.then_some h
        have := i3 _ _ _ _ h1
        have := i4 _ _ _ _ h2
        have := wt_kids k
        rw [wtKs]
        omega
    · intro d c ks c' h
      cases ks with
      | nil => rw [jSteps] at h; cases h; rw [wtKs]; omega
      | cons k ks =>
        rw [jSteps] at h
        split at h
        · obtain ⟨c1, h1, h2⟩ := JR.then_some h
          have := i1 _ _ _ _ h1
          have := i5 _ _ _ _ h2
          rw [wtKs]
          omega
        · cases h
    · intro d c ks c' h
      cases ks with
      | nil => rw [jPath] at h; cases h
      | cons k ks =>
        rw [jPath] at h
        split at h
        · cases h
        · obtain ⟨c1, h1, h2⟩ := JR.then_some h
          have := i5 _ _ _ _ h2
          rw [wtKs]
          split at h1
          · have := i1 _ _ _ _ h1
            omega
          · have := i3 _ _ _ _ h1
            omega
set_option maxRecDepth 100000 in
set_option maxHeartbeats 2000000 in
theorem psame_ok (W0 : World) (hG : EnvG W0) (n c' : Nat) (x : Ex) (al bl : Option Addr) (cc bc : Nat) (w : World) (S R : Nat → Prop) (hb : Below W0.heap.size W0 w) (hz : smallX x = true) (hx : exV w S x (.slice al x.kids.length cc)) (hy : exV w R x (.slice bl x.kids.length bc)) (hr : jRight flX n 0 0 x = some (true, c')) :
    Calls Tryz.prog 8 #[exAgg x (.slice al x.kids.length cc), exAgg x (.slice bl x.kids.length bc)] w fun e w' => e = .returned (.bool true) ∧ Below w.heap.size w w' := by
  have hc := (jright_pos hr).2
  have hw := (j_wt flX n).2.2.1 _ _ _ _ hr
  obtain ⟨W1, e1⟩ : ∃ W1, w.alloc (oneB x (.slice al x.kids.length cc)) = W1 := ⟨_, rfl⟩
  have hb1 : Below w.heap.size w W1 := by rw [← e1]; exact (Below.refl _ _).alloc (Nat.le_refl _) _
  have hq1 : W1.heap[w.heap.size]? = some (oneB x (.slice al x.kids.length cc)) := by rw [← e1]; exact palloc_new _ _
  obtain ⟨W2, e2⟩ : ∃ W2, W1.alloc (oneB x (.slice bl x.kids.length bc)) = W2 := ⟨_, rfl⟩
  have hb2 : Below W1.heap.size W1 W2 := by rw [← e2]; exact (Below.refl _ _).alloc (Nat.le_refl _) _
  have hp2 : W2.heap[W1.heap.size]? = some (oneB x (.slice bl x.kids.length bc)) := by rw [← e2]; exact palloc_new _ _
  have hq2 := blockC hq1 hb2
  have hb12 := Below.then hb1 hb2
  have hx2 := (hx.belowC hb1).belowC hb2
  have hy2 := (hy.belowC hb1).belowC hb2
  have HB2 := hide hb12
  have HQ2 := hide hq2
  have HP2 := hide hp2
  have HR1 := hide (pright_ok W0 hG n c' x al cc W2 S (hb.trans (hb12.mono hb.size)) hz hx2 hr)
  have HR2 := hide (fun w3 (h3 : Below W2.heap.size W2 w3) => pright_ok W0 hG n c' x bl bc w3 R (hb.trans ((Below.then hb12 h3).mono hb.size)) hz (hy2.belowC h3) hr)
  have HAL := hide (fun w3 (h3 : Below W2.heap.size W2 w3) => alike_all 1000000 x (by omega) (by omega) al bl cc bc w3 S R (hx2.belowC h3) (hy2.belowC h3))
  obtain ⟨a0, a1, a2, a3, a4, a5, a6⟩ := var_cells hq2
  clear hb1 hq1 hb2 hp2 hq2 hb12 hx2 hy2 hx hy hr hz hG hb hc hw
  go_enter Tryz.func8, Tryz.ntmps8
  go_wp2_with fail
  refine (unhide HR1).mono ?_
  rintro e w3 ⟨rfl, hb3⟩
  have HB3 := hide hb3
  have hp3 := blockC (unhide HP2) hb3
  clear hb3 HR1 a0 a1 a2 a3 a4 a5 a6
  obtain ⟨c0, c1, c2, c3, c4, c5, c6⟩ := var_cells hp3
  clear hp3
  go_wp2_with fail
  refine (unhide HR2 w3 (unhide HB3)).mono ?_
  rintro e w4 ⟨rfl, hb4⟩
  have HB4 := hide (Below.then (unhide HB3) hb4)
  clear hb4 c0 c1 c2 c3 c4 c5 c6
  have hq4 := blockC (unhide HQ2) (unhide HB4)
  have hp4 := blockC (unhide HP2) (unhide HB4)
  obtain ⟨a0, a1, a2, a3, a4, a5, a6⟩ := var_cells hq4
  obtain ⟨c0, c1, c2, c3, c4, c5, c6⟩ := var_cells hp4
  clear hq4 hp4
  go_wp2_with fail
  refine (unhide HAL w4 (unhide HB4)).mono ?_
  rintro e w5 ⟨rfl, hb5⟩
  have HB5 := hide (Below.then (unhide HB4) hb5)
  clear hb5 a0 a1 a2 a3 a4 a5 a6 c0 c1 c2 c3 c4 c5 c6
  go_wp2_with fail
  go_returns
  exact ⟨rfl, Below.then (unhide HB2) (unhide HB5)⟩
end Go.Proofs.YtnmcambbpgoodaaGreatDoor
