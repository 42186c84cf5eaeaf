/- Whether an expression is right: xparse's Size and Right, of what is. -/
import Derived.Test.YthkkfldmoflfaaaGreatDoorParR6
import Derived.Test.YthkkfldmoflfaaaGreatDoorParX2
namespace Go.Proofs.YthkkfldmoflfaaaGreatDoor
open Go.RowKit Go.Maps
structure JAny (fl : Ex → Bool) (W0 : World) (n : Nat) : Prop where
  part : JPartC fl W0 n
  kids : JKidsC fl W0 n
  right : JRightC fl W0 n
  all : JAllC fl W0 n
  path : JPathC fl W0 n
theorem JAny.zero (fl : Ex → Bool) (W0 : World) : JAny fl W0 0 where
  part := fun p d c x al cc w S b c' _ _ _ _ _ _ h => by rw [jPart] at h; cases h
  kids := fun p d c x al cc w S b c' _ _ _ _ _ _ h => by rw [jKids] at h; cases h
  right := fun p d c x al cc w S b c' _ _ _ _ _ _ h => by rw [jRight] at h; cases h
  all := fun p d c x al cc w S b c' _ _ _ _ _ _ h => by rw [jAll] at h; cases h
  path := fun p d c x al cc w S b c' _ _ _ _ _ _ h => by rw [jPath] at h; cases h
theorem jany (fl : Ex → Bool) (W0 : World) (hF : FieldsC fl W0) : ∀ n m, m ≤ n → JAny fl W0 m
  | 0, m, h => by
    obtain rfl : m = 0 := by omega
    exact JAny.zero fl W0
  | n + 1, m, h => by
    have ih := jany fl W0 hF n
    by_cases hm : m ≤ n
    · exact ih m hm
    · obtain rfl : m = n + 1 := by omega
      have h1 := ih n (Nat.le_refl n)
      exact ⟨jpart_step fl W0 n hF h1.kids, jkids_step fl W0 n h1.all h1.path, jright_step fl W0 n h1.part, jall_step fl W0 n (fun m hm => (ih m hm).right), jpath_step fl W0 n (jbeg_any fl W0 n h1.part h1.right) (fun m hm => (ih m hm).part)⟩
set_option maxRecDepth 100000 in
set_option maxHeartbeats 4000000 in
theorem psize_ok (W0 : World) (hG : EnvG W0) (n c' : Nat) (x : Ex) (al : Option Addr) (cc : Nat) (w : World) (S : Nat → Prop) (hb : Below W0.heap.size W0 w) (hz : smallX x = true) (hx : exV w S x (.slice al x.kids.length cc)) (hr : jRight flX n 0 0 x = some (true, c')) :
    Calls Tryz.prog 28 #[exAgg x (.slice al x.kids.length cc)] w fun e w' => e = .returned (.int .i64 (c' : Nat)) ∧ Below w.heap.size w w' := by
  obtain ⟨W1, e1⟩ : ∃ W1, w.alloc (oneB x (.slice al x.kids.length cc)) = W1 := ⟨_, rfl⟩
  have hb1 : Below w.heap.size w W1 := by rw [← e1]; exact (Below.refl _ _).alloc (Nat.le_refl _) _
  have hq1 : W1.heap[w.heap.size]? = some (oneB x (.slice al x.kids.length cc)) := by rw [← e1]; exact palloc_new _ _
  obtain ⟨W2, e2⟩ : ∃ W2, W1.alloc (.cells #[.int .i64 0] 94) = W2 := ⟨_, rfl⟩
  have hb2 : Below W1.heap.size W1 W2 := by rw [← e2]; exact (Below.refl _ _).alloc (Nat.le_refl _) _
  have hj : JV W2 W1.heap.size 0 := by rw [← e2]; exact palloc_new _ _
  have hq2 := blockK (Kq.of (S := fun _ => False) hb2) hq1 (fun h => h)
  have hx2 := ((hx.kept (Kq.of (S := fun _ => False) hb1) (fun _ _ _ h => h)).bound).kept (Kq.of (S := fun _ => False) hb2) (fun _ _ _ h => h)
  have hlt : w.heap.size < W1.heap.size := (Array.getElem?_eq_some_iff.1 hq1).1
  have hJQ : JQ W0 W2 W1.heap.size 0 := ⟨hj, by have := hb.size; omega, hb.trans ((Below.then hb1 hb2).mono hb.size)⟩
  have hC := (jany flX W0 (pfields_any W0 hG) n n (Nat.le_refl n)).right W1.heap.size 0 0 x al cc W2 _ true c' hJQ hz hx2 (fun j hj => by omega) (by omega) (by omega) hr
  rw [show ((0 : Nat) : Int) = 0 from rfl] at hC
  have HC := hide hC
  have HB2 := hide (Below.then hb1 hb2)
  have HLT := hide hlt
  obtain ⟨a0, a1, a2, a3, a4, a5, a6⟩ := var_cells hq2
  generalize hp : W1.heap.size = p at HC hlt
  have HPW := hide hp
  clear hC hb1 hq1 hb2 hj hq2 hx2 hJQ hb hz hx hr hG hlt
  go_enter Tryz.func28, Tryz.ntmps28
  go_wp2_with fail
  refine (unhide HC).mono ?_
  rintro e w3 ⟨rfl, r1, r2⟩
  have c0 : w3.cell? ⟨p, 0, none⟩ = some (.int .i64 (c' : Nat)) := pcell r1 0
  have HB3 := hide (Kq.fresh ((Kq.of (S := fun j => j = p) (unhide HB2)).andThen r2 (fun _ _ h => h)) (fun j hj => by have := unhide HLT; have := unhide HPW; omega))
  clear r1 r2 HC a0 a1 a2 a3 a4 a5 a6
  go_wp2_with fail
  go_returns
  exact ⟨rfl, unhide HB3⟩
theorem jright_pos {n c' : Nat} {x : Ex} {fl : Ex → Bool} (hr : jRight fl n 0 0 x = some (true, c')) : 1 ≤ c' ∧ c' ≤ 512 := by
  have := (j_counts fl n).2.2.1 _ _ _ _ hr
  omega
set_option maxRecDepth 100000 in
set_option maxHeartbeats 4000000 in
theorem pright_ok (W0 : World) (hG : EnvG W0) (n c' : Nat) (x : Ex) (al : Option Addr) (cc : Nat) (w : World) (S : Nat → Prop) (hb : Below W0.heap.size W0 w) (hz : smallX x = true) (hx : exV w S x (.slice al x.kids.length cc)) (hr : jRight flX n 0 0 x = some (true, c')) :
    Calls Tryz.prog 13 #[exAgg x (.slice al x.kids.length cc)] w fun e w' => e = .returned (.bool true) ∧ Below w.heap.size w w' := by
  obtain ⟨W1, e1⟩ : ∃ W1, w.alloc (oneB x (.slice al x.kids.length cc)) = W1 := ⟨_, rfl⟩
  have hb1 : Below w.heap.size w W1 := by rw [← e1]; exact (Below.refl _ _).alloc (Nat.le_refl _) _
  have hq1 : W1.heap[w.heap.size]? = some (oneB x (.slice al x.kids.length cc)) := by rw [← e1]; exact palloc_new _ _
  have hx1 := hx.kept (Kq.of (S := fun _ => False) hb1) (fun _ _ _ h => h)
  have HC := hide (psize_ok W0 hG n c' x al cc W1 S (hb.trans (hb1.mono hb.size)) hz hx1 hr)
  have hp := jright_pos hr
  have HPOS := hide (show 0 < c' by omega)
  have HB1 := hide hb1
  obtain ⟨a0, a1, a2, a3, a4, a5, a6⟩ := var_cells hq1
  clear hb1 hq1 hx1 hb hz hx hr hG hp
  go_enter Tryz.func13, Tryz.ntmps13
  go_wp2_with fail
  refine (unhide HC).mono ?_
  rintro e w3 ⟨rfl, r1⟩
  have HB3 := hide (Below.then (unhide HB1) r1)
  clear r1 HC a0 a1 a2 a3 a4 a5 a6
  go_wp2_with fail
  go_returns
  exact ⟨ret_bool (decide_eq_true (unhide HPOS)), unhide HB3⟩
end Go.Proofs.YthkkfldmoflfaaaGreatDoor
