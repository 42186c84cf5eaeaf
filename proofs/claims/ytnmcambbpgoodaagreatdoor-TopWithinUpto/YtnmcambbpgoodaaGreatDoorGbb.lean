/- Several texts, laid as one. -/
import Derived.Test.YtnmcambbpgoodaaGreatDoorParR6
import Derived.Test.YtnmcambbpgoodaaGreatDoorParX2
import Derived.Test.YtnmcambbpgoodaaGreatDoorGav
import Derived.Test.YtnmcambbpgoodaaGreatDoorGaj
import Derived.Test.YtnmcambbpgoodaaGreatDoorGax
/- Whether an expression is right: xparse's Size and Right, of what is. -/
namespace Go.Proofs.YtnmcambbpgoodaaGreatDoor
open Go.RowKit Go.Maps
structure JAny (fl : Ex → Bool) (W0 : World) (n : Nat) : Prop where
  part : JPartC fl W0 n
  kids : JKidsC fl W0 n
  right : JRightC fl W0 n
  all : JAllC fl W0 n
  path : JPathC fl W0 n
theorem JAny.zero (fl : Ex → Bool) (W0 : World) : JAny fl W0 0 where
  part := fun p d c x al cc w S b c' _ _ _ _ _ _ h => by rw [jPart] at h; cases h
  kids := fun p d c x al cc w S b c' _ _ _ _ _ _ h => by rw [jKids] at h; cases h
  right := fun p d c x al cc w S b c' _ _ _ _ _ _ h => by rw [jRight] at h; cases h
  all := fun p d c x al cc w S b c' _ _ _ _ _ _ h => by rw [jAll] at h; cases h
  path := fun p d c x al cc w S b c' _ _ _ _ _ _ h => by rw [jPath] at h; cases h
theorem jany (fl : Ex → Bool) (W0 : World) (hF : FieldsC fl W0) : ∀ n m, m ≤ n → JAny fl W0 m
  | 0, m, h => by
    obtain rfl : m = 0 := by omega
    exact JAny.zero fl W0
  | n + 1, m, h => by
    have ih := jany fl W0 hF n
    by_cases hm : m ≤ n
    · exact ih m hm
    · obtain rfl : m = n + 1 := by omega
      have h1 := ih n (Nat.le_refl n)
      exact ⟨jpart_step fl W0 n hF h1.kids, jkids_step fl W0 n h1.all h1.path, jright_step fl W0 n h1.part, jall_step fl W0 n (fun m hm => (ih m hm).right), jpath_step fl W0 n (jbeg_any fl W0 n h1.part h1.right) (fun m hm => (ih m hm).part)⟩
set_option maxRecDepth 100000 in
set_option maxHeartbeats 4000000 in
theorem psize_ok (W0 : World) (hG : EnvG W0) (n c' : Nat) (x : Ex) (al : Option Addr) (cc : Nat) (w : World) (S : Nat → Prop) (hb : Below W0.heap.size W0 w) (hz : smallX x = true) (hx : exV w S x (.slice al x.kids.length cc)) (hr : jRight flX n 0 0 x = some (true, c')) :
    Calls Tryz.prog 10 #[exAgg x (.slice al x.kids.length cc)] w fun e w' => e = .returned (.int .i64 (c' : Nat)) ∧ Below w.heap.size w w' := by
  obtain ⟨W1, e1⟩ : ∃ W1, w.alloc (oneB x (.slice al x.kids.length cc)) = W1 := ⟨_, rfl⟩
  have hb1 : Below w.heap.size w W1 := by rw [← e1]; exact (Below.refl _ _).alloc (Nat.le_refl _) _
  have hq1 : W1.heap[w.heap.size]? = some (oneB x (.slice al x.kids.length cc)) := by rw [← e1]; exact palloc_new _ _
  obtain ⟨W2, e2⟩ : ∃ W2, W1.alloc (.cells #[.int .i64 0] 63) = W2 := ⟨_, rfl⟩
  have hb2 : Below W1.heap.size W1 W2 := by rw [← e2]; exact (Below.refl _ _).alloc (Nat.le_refl _) _
  have hj : JV W2 W1.heap.size 0 := by rw [← e2]; exact palloc_new _ _
  have hq2 := blockK (Kq.of (S := fun _ => False) hb2) hq1 (fun h => h)
  have hx2 := ((hx.kept (Kq.of (S := fun _ => False) hb1) (fun _ _ _ h => h)).bound).kept (Kq.of (S := fun _ => False) hb2) (fun _ _ _ h => h)
  have hlt : w.heap.size < W1.heap.size := (Array.getElem?_eq_some_iff.1 hq1).1
  have hJQ : JQ W0 W2 W1.heap.size 0 := ⟨hj, by have := hb.size; omega, hb.trans ((Below.then hb1 hb2).mono hb.size)⟩
  have hC := (jany flX W0 (pfields_any W0 hG) n n (Nat.le_refl n)).right W1.heap.size 0 0 x al cc W2 _ true c' hJQ hz hx2 (fun j hj => by omega) (by omega) (by omega) hr
  rw [show ((0 : Nat) : Int) = 0 from rfl] at hC
  have HC := hide hC
  have HB2 := hide (Below.then hb1 hb2)
  have HLT := hide hlt
  obtain ⟨a0, a1, a2, a3, a4, a5, a6⟩ := var_cells hq2
  generalize hp : W1.heap.size = p at HC hlt
  have HPW := hide hp
  clear hC hb1 hq1 hb2 hj hq2 hx2 hJQ hb hz hx hr hG hlt
  go_enter Tryz.func10, Tryz.ntmps10
  go_wp2_with fail
  refine (unhide HC).mono ?_
  rintro e w3 ⟨rfl, r1, r2⟩
  have c0 : w3.cell? ⟨p, 0, none⟩ = some (.int .i64 (c' : Nat)) := pcell r1 0
  have HB3 := hide (Kq.fresh ((Kq.of (S := fun j => j = p) (unhide HB2)).andThen r2 (fun _ _ h => h)) (fun j hj => by have := unhide HLT; have := unhide HPW; omega))
  clear r1 r2 HC a0 a1 a2 a3 a4 a5 a6
  go_wp2_with fail
  go_returns
  exact ⟨rfl, unhide HB3⟩
theorem jright_pos {n c' : Nat} {x : Ex} {fl : Ex → Bool} (hr : jRight fl n 0 0 x = some (true, c')) : 1 ≤ c' ∧ c' ≤ 512 := by
  have := (j_counts fl n).2.2.1 _ _ _ _ hr
  omega
set_option maxRecDepth 100000 in
set_option maxHeartbeats 4000000 in
theorem pright_ok (W0 : World) (hG : EnvG W0) (n c' : Nat) (x : Ex) (al : Option Addr) (cc : Nat) (w : World) (S : Nat → Prop) (hb : Below W0.heap.size W0 w) (hz : smallX x = true) (hx : exV w S x (.slice al x.kids.length cc)) (hr : jRight flX n 0 0 x = some (true, c')) :
    Calls Tryz.prog 9 #[exAgg x (.slice al x.kids.length cc)] w fun e w' => e = .returned (.bool true) ∧ Below w.heap.size w w' := by
  obtain ⟨W1, e1⟩ : ∃ W1, w.alloc (oneB x (.slice al x.kids.length cc)) = W1 := ⟨_, rfl⟩
  have hb1 : Below w.heap.size w W1 := by rw [← e1]; exact (Below.refl _ _).alloc (Nat.le_refl _) _
  have hq1 : W1.heap[w.heap.size]? = some (oneB x (.slice al x.kids.length cc)) := by rw [← e1]; exact palloc_new _ _
  have hx1 := hx.kept (Kq.of (S := fun _ => False) hb1) (fun _ _ _ h => h)
  have HC := hide (psize_ok W0 hG n c' x al cc W1 S (hb.trans (hb1.mono hb.size)) hz hx1 hr)
  have hp := jright_pos hr
  have HPOS := hide (show 0 < c' by omega)
  have HB1 := hide hb1
  obtain ⟨a0, a1, a2, a3, a4, a5, a6⟩ := var_cells hq1
  clear hb1 hq1 hx1 hb hz hx hr hG hp
  go_enter Tryz.func9, Tryz.ntmps9
  go_wp2_with fail
  refine (unhide HC).mono ?_
  rintro e w3 ⟨rfl, r1⟩
  have HB3 := hide (Below.then (unhide HB1) r1)
  clear r1 HC a0 a1 a2 a3 a4 a5 a6
  go_wp2_with fail
  go_returns
  exact ⟨ret_bool (decide_eq_true (unhide HPOS)), unhide HB3⟩
end Go.Proofs.YtnmcambbpgoodaaGreatDoor
/- xparse's Same, at two copies of one expression that is right. -/
namespace Go.Proofs.YtnmcambbpgoodaaGreatDoor
open Go.RowKit Go.Maps
/-- What the judge takes is not great. -/
theorem j_wt (fl : Ex → Bool) : ∀ n, (∀ d c e c', jPart fl n d c e = some (true, c') → wt e + 8 * c + 1 ≤ 8 * c') ∧ (∀ d c e c', jKids fl n d c e = some (true, c') → wtKs e.kids + 8 * c ≤ 8 * c' + 1) ∧ (∀ d c e c', jRight fl n d c e = some (true, c') → wt e + 8 * c + 1 ≤ 8 * c') ∧ (∀ d c ks c', jAll fl n d c ks = some (true, c') → wtKs ks + 8 * c ≤ 8 * c' + 1) ∧ (∀ d c ks c', jSteps fl n d c ks = some (true, c') → wtKs ks + 8 * c ≤ 8 * c' + 1) ∧ (∀ d c ks c', jPath fl n d c ks = some (true, c') → wtKs ks + 8 * c ≤ 8 * c' + 1)
  | 0 => by
    refine ⟨?_, ?_, ?_, ?_, ?_, ?_⟩ <;> (intros; rename_i h; simp [jPart, jKids, jRight, jAll, jSteps, jPath] at h)
  | n + 1 => by
    obtain ⟨i1, i2, i3, i4, i5, i6⟩ := j_wt fl n
    refine ⟨?_, ?_, ?_, ?_, ?_, ?_⟩
    · intro d c e c' h
      rw [jPart] at h
      split at h
      · have := i2 _ _ _ _ h
        have := wt_kids e
        omega
      · cases h
    · intro d c e c' h
      rw [jKids] at h
      split at h
      · exact i6 _ _ _ _ h
      · split at h
        · exact i4 _ _ _ _ h
        · cases h
    · intro d c e c' h
      rw [jRight] at h
      split at h
      · exact i1 _ _ _ _ h
      · cases h
    · intro d c ks c' h
      cases ks with
      | nil => rw [jAll] at h; cases h; rw [wtKs]; omega
      | cons k ks =>
        rw [jAll] at h
        obtain ⟨c1, h1, h2⟩ := JR.then_some h
        have := i3 _ _ _ _ h1
        have := i4 _ _ _ _ h2
        have := wt_kids k
        rw [wtKs]
        omega
    · intro d c ks c' h
      cases ks with
      | nil => rw [jSteps] at h; cases h; rw [wtKs]; omega
      | cons k ks =>
        rw [jSteps] at h
        split at h
        · obtain ⟨c1, h1, h2⟩ := JR.then_some h
          have := i1 _ _ _ _ h1
          have := i5 _ _ _ _ h2
          rw [wtKs]
          omega
        · cases h
    · intro d c ks c' h
      cases ks with
      | nil => rw [jPath] at h; cases h
      | cons k ks =>
        rw [jPath] at h
        split at h
        · cases h
        · obtain ⟨c1, h1, h2⟩ := JR.then_some h
          have := i5 _ _ _ _ h2
          rw [wtKs]
          split at h1
          · have := i1 _ _ _ _ h1
            omega
          · have := i3 _ _ _ _ h1
            omega
set_option maxRecDepth 100000 in
set_option maxHeartbeats 2000000 in
theorem psame_ok (W0 : World) (hG : EnvG W0) (n c' : Nat) (x : Ex) (al bl : Option Addr) (cc bc : Nat) (w : World) (S R : Nat → Prop) (hb : Below W0.heap.size W0 w) (hz : smallX x = true) (hx : exV w S x (.slice al x.kids.length cc)) (hy : exV w R x (.slice bl x.kids.length bc)) (hr : jRight flX n 0 0 x = some (true, c')) :
    Calls Tryz.prog 8 #[exAgg x (.slice al x.kids.length cc), exAgg x (.slice bl x.kids.length bc)] w fun e w' => e = .returned (.bool true) ∧ Below w.heap.size w w' := by
  have hc := (jright_pos hr).2
  have hw := (j_wt flX n).2.2.1 _ _ _ _ hr
  obtain ⟨W1, e1⟩ : ∃ W1, w.alloc (oneB x (.slice al x.kids.length cc)) = W1 := ⟨_, rfl⟩
  have hb1 : Below w.heap.size w W1 := by rw [← e1]; exact (Below.refl _ _).alloc (Nat.le_refl _) _
  have hq1 : W1.heap[w.heap.size]? = some (oneB x (.slice al x.kids.length cc)) := by rw [← e1]; exact palloc_new _ _
  obtain ⟨W2, e2⟩ : ∃ W2, W1.alloc (oneB x (.slice bl x.kids.length bc)) = W2 := ⟨_, rfl⟩
  have hb2 : Below W1.heap.size W1 W2 := by rw [← e2]; exact (Below.refl _ _).alloc (Nat.le_refl _) _
  have hp2 : W2.heap[W1.heap.size]? = some (oneB x (.slice bl x.kids.length bc)) := by rw [← e2]; exact palloc_new _ _
  have hq2 := blockC hq1 hb2
  have hb12 := Below.then hb1 hb2
  have hx2 := (hx.belowC hb1).belowC hb2
  have hy2 := (hy.belowC hb1).belowC hb2
  have HB2 := hide hb12
  have HQ2 := hide hq2
  have HP2 := hide hp2
  have HR1 := hide (pright_ok W0 hG n c' x al cc W2 S (hb.trans (hb12.mono hb.size)) hz hx2 hr)
  have HR2 := hide (fun w3 (h3 : Below W2.heap.size W2 w3) => pright_ok W0 hG n c' x bl bc w3 R (hb.trans ((Below.then hb12 h3).mono hb.size)) hz (hy2.belowC h3) hr)
  have HAL := hide (fun w3 (h3 : Below W2.heap.size W2 w3) => alike_all 1000000 x (by omega) (by omega) al bl cc bc w3 S R (hx2.belowC h3) (hy2.belowC h3))
  obtain ⟨a0, a1, a2, a3, a4, a5, a6⟩ := var_cells hq2
  clear hb1 hq1 hb2 hp2 hq2 hb12 hx2 hy2 hx hy hr hz hG hb hc hw
  go_enter Tryz.func8, Tryz.ntmps8
  go_wp2_with fail
  refine (unhide HR1).mono ?_
  rintro e w3 ⟨rfl, hb3⟩
  have HB3 := hide hb3
  have hp3 := blockC (unhide HP2) hb3
  clear hb3 HR1 a0 a1 a2 a3 a4 a5 a6
  obtain ⟨c0, c1, c2, c3, c4, c5, c6⟩ := var_cells hp3
  clear hp3
  go_wp2_with fail
  refine (unhide HR2 w3 (unhide HB3)).mono ?_
  rintro e w4 ⟨rfl, hb4⟩
  have HB4 := hide (Below.then (unhide HB3) hb4)
  clear hb4 c0 c1 c2 c3 c4 c5 c6
  have hq4 := blockC (unhide HQ2) (unhide HB4)
  have hp4 := blockC (unhide HP2) (unhide HB4)
  obtain ⟨a0, a1, a2, a3, a4, a5, a6⟩ := var_cells hq4
  obtain ⟨c0, c1, c2, c3, c4, c5, c6⟩ := var_cells hp4
  clear hq4 hp4
  go_wp2_with fail
  refine (unhide HAL w4 (unhide HB4)).mono ?_
  rintro e w5 ⟨rfl, hb5⟩
  have HB5 := hide (Below.then (unhide HB4) hb5)
  clear hb5 a0 a1 a2 a3 a4 a5 a6 c0 c1 c2 c3 c4 c5 c6
  go_wp2_with fail
  go_returns
  exact ⟨rfl, Below.then (unhide HB2) (unhide HB5)⟩
end Go.Proofs.YtnmcambbpgoodaaGreatDoor
/- Tokens ahead of a ')' or a ',' are scanned as they stand alone. -/
namespace Go.Proofs.YtnmcambbpgoodaaGreatDoor
/-- What is empty, or begins with ')' or ','. -/
def ends4 (R : List Nat) : Prop := ∀ c, R.head? = some c → c = 41 ∨ c = 44
theorem ends4_41 (R : List Nat) : ends4 (41 :: R) := fun c h => by cases h; exact .inl rfl
theorem takeWhile_ext (p : Nat → Bool) (m R : List Nat) (h : ∀ c, R.head? = some c → p c = false) : (m ++ R).takeWhile p = m.takeWhile p := by
  induction m with
  | nil =>
    cases R with
    | nil => rfl
    | cons c r => rw [List.nil_append, List.takeWhile_cons_of_neg (by rw [h c rfl]; decide)]; rfl
  | cons a m ih =>
    rw [List.cons_append]
    cases ha : p a with
    | true => rw [List.takeWhile_cons_of_pos ha, List.takeWhile_cons_of_pos ha, ih]
    | false => rw [List.takeWhile_cons_of_neg (by rw [ha]; decide), List.takeWhile_cons_of_neg (by rw [ha]; decide)]
theorem ends4_not {R : List Nat} (h : ends4 R) {p : Nat → Bool} (h1 : p 41 = false) (h2 : p 44 = false) : ∀ c, R.head? = some c → p c = false := fun c hc => by
  rcases h c hc with rfl | rfl
  · exact h1
  · exact h2
theorem heads_ext {R : List Nat} (h : ends4 R) {c : Nat} (h1 : c ≠ 41) (h2 : c ≠ 44) (x : List Nat) : heads c (x ++ R) = heads c x := by
  cases x with
  | nil =>
    rw [List.nil_append, heads_nil]
    cases R with
    | nil => rfl
    | cons d r =>
      rw [heads_cons]
      rcases h d rfl with rfl | rfl <;> simp <;> omega
  | cons d x => rw [List.cons_append, heads_cons, heads_cons]
theorem drop_ext {m R a : List Nat} (h : a <+: m) : (m ++ R).drop a.length = m.drop a.length ++ R := List.drop_append_of_le_length h.length_le
theorem tail_ext {x R : List Nat} (h : x ≠ []) : (x ++ R).tail = x.tail ++ R := by
  cases x with
  | nil => exact absurd rfl h
  | cons d x => rfl
theorem heads_ne {c : Nat} {x : List Nat} (h : heads c x = true) : x ≠ [] := fun e => by rw [e] at h; cases h
theorem digsA_ext {R : List Nat} (h : ends4 R) (m : List Nat) : digsA (m ++ R) = digsA m := takeWhile_ext digC m R (ends4_not h rfl rfl)
theorem digsA_prefix (l : List Nat) : digsA l <+: l := List.takeWhile_prefix _
theorem numA_ext {R : List Nat} (h : ends4 R) (m : List Nat) : numA (m ++ R) = numA m := by
  unfold numA
  rw [digsA_ext h, drop_ext (digsA_prefix m), heads_ext h (by decide) (by decide)]
  cases hh : heads 46 (m.drop (digsA m).length) with
  | false => rfl
  | true => rw [tail_ext (heads_ne hh), digsA_ext h]
theorem beg41 : begC 41 = false := by decide
theorem beg44 : begC 44 = false := by decide
theorem nameA_ext {R : List Nat} (h : ends4 R) (m : List Nat) : nameA (m ++ R) = nameA m := by
  cases m with
  | nil =>
    cases R with
    | nil => rfl
    | cons c r =>
      rcases h c rfl with rfl | rfl
      · exact nameA_no beg41 r
      · exact nameA_no beg44 r
  | cons a m => rw [List.cons_append, nameA, nameA, takeWhile_ext goC m R (ends4_not h (by decide) (by decide))]
theorem qnameA_ext {R : List Nat} (h : ends4 R) (m : List Nat) : qnameA (m ++ R) = qnameA m := by
  unfold qnameA
  rw [nameA_ext h, drop_ext (nameA_pre m), heads_ext h (by decide) (by decide)]
  cases hh : heads 58 (m.drop (nameA m).length) with
  | false => simp
  | true => rw [tail_ext (heads_ne hh), nameA_ext h]
theorem pre2_ext {R : List Nat} (h : ends4 R) {a b : Nat} (ha : a ≠ 41 ∧ a ≠ 44) (hb : b ≠ 41 ∧ b ≠ 44) (x : List Nat) : [a, b].isPrefixOf (x ++ R) = [a, b].isPrefixOf x := by
  have hd : ∀ c, c ≠ 41 ∧ c ≠ 44 → ∀ d r, R = d :: r → (c == d) = false := fun c hc d r e => by
    rcases h d (by rw [e]; rfl) with rfl | rfl <;> simp <;> omega
  cases x with
  | nil =>
    cases hR : R with
    | nil => rfl
    | cons d r =>
      show ((a == d) && [b].isPrefixOf r) = false
      rw [hd a ha d r hR, Bool.false_and]
  | cons c x =>
    cases x with
    | nil =>
      cases hR : R with
      | nil => rfl
      | cons d r =>
        show ((a == c) && ((b == d) && [].isPrefixOf r)) = ((a == c) && false)
        rw [hd b hb d r hR, Bool.false_and]
    | cons c2 x => rfl
theorem wordA_ext {R : List Nat} (h : ends4 R) (m : List Nat) : wordA (m ++ R) = wordA m := by
  unfold wordA
  rw [heads_ext h (by decide) (by decide), qnameA_ext h, drop_ext (qnameA_pre m), pre2_ext h (by decide) (by decide)]
theorem varA_ext {R : List Nat} (h : ends4 R) (m : List Nat) : varA (m ++ R) = varA m := by
  unfold varA
  rw [heads_ext h (by decide) (by decide)]
  cases hh : heads 36 m with
  | false => rfl
  | true => rw [tail_ext (heads_ne hh), qnameA_ext h]
theorem dropB_ext {R : List Nat} (h : ends4 R) (b : List Nat) : (b ++ R).dropWhile blankC = b.dropWhile blankC ++ R := by
  induction b with
  | nil =>
    cases R with
    | nil => rfl
    | cons c r =>
      rw [List.nil_append, List.dropWhile_cons_of_neg (by rcases h c rfl with rfl | rfl <;> decide)]
      rfl
  | cons a b ih =>
    rw [List.cons_append]
    cases ha : blankC a with
    | true => rw [List.dropWhile_cons_of_pos ha, List.dropWhile_cons_of_pos ha, ih]
    | false => rw [List.dropWhile_cons_of_neg (by rw [ha]; decide), List.dropWhile_cons_of_neg (by rw [ha]; decide)]; rfl
theorem wordK_ext {R : List Nat} (h : ends4 R) (w b : List Nat) (pl : Bool) : wordK w (b ++ R) pl = wordK w b pl := by
  unfold wordK
  rw [dropB_ext h, heads_ext h (by decide) (by decide), pre2_ext h (by decide) (by decide)]
theorem find_cong {α : Type} {p q : α → Bool} : ∀ {l : List α}, (∀ x ∈ l, p x = q x) → l.find? p = l.find? q
  | [], _ => rfl
  | a :: l, h => by
    rw [List.find?_cons, List.find?_cons, h a (by simp), find_cong (l := l) fun x hx => h x (List.mem_cons_of_mem _ hx)]
theorem signA_ext {R : List Nat} (h : ends4 R) {m : List Nat} (hm : m ≠ []) : signA (m ++ R) = signA m := by
  unfold signA
  have h1 : ∀ a, [a].isPrefixOf (m ++ R) = [a].isPrefixOf m := fun a => by
    cases m with
    | nil => exact absurd rfl hm
    | cons c m => rfl
  refine find_cong fun x hx => ?_
  simp only [signL, List.mem_cons, List.not_mem_nil, or_false] at hx
  rcases hx with rfl | rfl | rfl | rfl | rfl | rfl | rfl | rfl | rfl | rfl | rfl | rfl | rfl | rfl | rfl | rfl | rfl | rfl | rfl | rfl <;> first | exact h1 _ | exact pre2_ext h (by decide) (by decide) m
theorem strAt_ext {R m t : List Nat} {q : Nat} (h : strAt q m = some t) : strAt q (m ++ R) = some t := by
  unfold strAt at h ⊢
  split at h
  · rename_i hh
    rw [Bool.and_eq_true] at hh
    obtain ⟨h1, h2⟩ := hh
    have hq : q ∈ m.tail := by simpa using h2
    rw [tail_ext (heads_ne h1), heads_app (heads_ne h1), h1, show (m.tail ++ R).contains q = true from by simp [hq]]
    have e : (m.tail ++ R).takeWhile (· != q) = m.tail.takeWhile (· != q) := by
      generalize m.tail = u at hq
      clear h h1 h2
      induction u with
      | nil => cases hq
      | cons a u ih =>
        rw [List.cons_append]
        by_cases ha : a = q
        · subst ha
          rw [List.takeWhile_cons_of_neg (by simp), List.takeWhile_cons_of_neg (by simp)]
        · rw [List.takeWhile_cons_of_pos (by simpa using ha), List.takeWhile_cons_of_pos (by simpa using ha), ih (by
            rcases List.mem_cons.1 hq with rfl | h
            · exact absurd rfl ha
            · exact h)]
    rw [e]
    exact h
  · cases h
theorem strAt_no {q : Nat} {l : List Nat} (h : heads q l = false) : strAt q l = none := by
  unfold strAt
  rw [h, Bool.false_and, if_neg (by decide)]
/-- A token is the same ahead of what ends it. -/
theorem tokA_ext {R : List Nat} (h : ends4 R) {m : List Nat} {pl : Bool} {t : Tok} (ht : tokA m pl = some t) : tokA (m ++ R) pl = some t := by
  have hm : m ≠ [] := fun e => by
    obtain ⟨hf, hp⟩ := tokA_formed ht
    rw [e] at hp
    exact formed_ne hf (List.prefix_nil.1 hp)
  have hq : ∀ q, q ≠ 41 → q ≠ 44 → heads q m = false → strAt q (m ++ R) = none := fun q h1 h2 hh => strAt_no (by rw [heads_ext h h1 h2, hh])
  have hs : ∀ q, q = 34 ∨ q = 39 → numA m = [] → (∀ x, strAt q m ≠ some x) → (∀ x, strAt (73 - q) m ≠ some x) → heads q m = false := by
    intro q hqq hn h1 h2
    cases hh : heads q m with
    | false => rfl
    | true =>
      exfalso
      have e := heads_true hh
      rcases tokA_cases ht with ⟨hn', _⟩ | ⟨q', x, hq', hs', _⟩ | ⟨x, hv, _⟩ | ⟨k, hw, _, _⟩ | ⟨k, x, _, _, hk, _⟩
      · exact hn' hn
      · have : q' = q ∨ q' = 73 - q := by omega
        rcases this with rfl | rfl
        · exact h1 x hs'
        · exact h2 x hs'
      · rw [e, varA_other (by omega)] at hv; cases hv
      · rcases hqq with rfl | rfl
        · rw [e, wordA_no (by decide) (by decide)] at hw; exact hw rfl
        · rw [e, wordA_no (by decide) (by decide)] at hw; exact hw rfl
      · obtain ⟨hm2, hp⟩ := signA_mem hk
        rw [e] at hp
        rcases hqq with rfl | rfl <;> (simp only [signL, List.mem_cons, List.not_mem_nil, or_false, Prod.mk.injEq] at hm2; rcases hm2 with ⟨_, rfl⟩ | ⟨_, rfl⟩ | ⟨_, rfl⟩ | ⟨_, rfl⟩ | ⟨_, rfl⟩ | ⟨_, rfl⟩ | ⟨_, rfl⟩ | ⟨_, rfl⟩ | ⟨_, rfl⟩ | ⟨_, rfl⟩ | ⟨_, rfl⟩ | ⟨_, rfl⟩ | ⟨_, rfl⟩ | ⟨_, rfl⟩ | ⟨_, rfl⟩ | ⟨_, rfl⟩ | ⟨_, rfl⟩ | ⟨_, rfl⟩ | ⟨_, rfl⟩ | ⟨_, rfl⟩ <;> exact absurd (List.cons_prefix_cons.1 hp).1 (by decide))
  have hpre : wordA m <+: m := wordA_pre m
  have hT := ht
  unfold tokA at ht ⊢
  rw [numA_ext h]
  cases hn : numA m with
  | cons a l => rw [hn] at ht; exact ht
  | nil =>
    rw [hn] at ht
    rw [if_neg (by simp)] at ht ⊢
    cases h34 : strAt 34 m with
    | some x => rw [h34] at ht; rw [strAt_ext h34]; exact ht
    | none =>
      rw [h34] at ht
      cases h39 : strAt 39 m with
      | some x =>
        have h1 : heads 34 m = false := by
          cases hh : heads 34 m with
          | false => rfl
          | true =>
            have e := heads_true hh
            rw [e] at h39
            rw [strAt_other (by decide)] at h39
            cases h39
        rw [hq 34 (by decide) (by decide) h1, strAt_ext h39]
        rw [h39] at ht
        exact ht
      | none =>
        have h1 := hs 34 (.inl rfl) hn (fun x e => by rw [h34] at e; cases e) (fun x e => by rw [show 73 - 34 = 39 from rfl, h39] at e; cases e)
        have h2 := hs 39 (.inr rfl) hn (fun x e => by rw [h39] at e; cases e) (fun x e => by rw [show 73 - 39 = 34 from rfl, h34] at e; cases e)
        rw [hq 34 (by decide) (by decide) h1, hq 39 (by decide) (by decide) h2, varA_ext h, wordA_ext h, drop_ext hpre, wordK_ext h, signA_ext h hm]
        rw [h39] at ht
        exact ht
end Go.Proofs.YtnmcambbpgoodaaGreatDoor
