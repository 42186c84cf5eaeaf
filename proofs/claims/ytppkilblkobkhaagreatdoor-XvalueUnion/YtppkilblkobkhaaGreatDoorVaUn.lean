/- xvalue.Union: slices.Concat, Sort, Compact at numbers. -/
import Derived.Test.YtppkilblkobkhaaGreatDoorVaUp
import Derived.Test.YtppkilblkobkhaaGreatDoorVaRu
import Derived.Test.YtppkilblkobkhaaGreatDoorVaCc
import Derived.Shelf.Sort.Plain
import Derived.Sort.OwnSortedInts
import Derived.Lib.OwnBridge
import Derived.Test.YtppkilblkobkhaaGreatDoorShelf
namespace Go.Proofs.YtppkilblkobkhaaGreatDoor
open Go.RowKit Go.Sort Go.Shelf
theorem sort_own (B : Nat) (v : Value) (l : List Int) (w : World) (h : OwnI w B v l) (hl : l.length ≤ 9000000) :
    Calls Tryz.prog 18 #[v] w fun e w' => e = .returned (.tuple #[]) ∧ OwnI w' B v (l.mergeSort fun x y => decide (x ≤ y)) ∧ Below B w w' := by
  rcases h.2 with ⟨rfl, h0⟩ | ⟨g, cap, cur, rfl, hb, hg, h1, h2, h3, h4⟩
  · have e : l = [] := List.length_eq_zero_iff.1 h0
    subst e
    refine (Tryz.slices_Sort_int_none none 0 w).mono ?_
    rintro e w' ⟨rfl, rfl⟩
    exact ⟨rfl, by simpa using h, Below.refl _ _⟩
  · rw [Nat.mul_one] at h4
    have hlt := (Array.getElem?_eq_some_iff.1 hg).1
    refine (Any.slices_Sort_int Tryz.lays189 g 0 cap l w (holds_of_blockI hg h4) hlt (by omega)).mono ?_
    rintro e w' ⟨rfl, n, os, rfl⟩
    have hlen : (l.mergeSort fun x y => decide (x ≤ y)).length = l.length := List.length_mergeSort l
    refine ⟨rfl, ?_, Below.grown (Below.refl _ _) (grownBy_sortedI _) (by omega) (fun j hj => by cases hj; exact hb)⟩
    have h5 := ownsRow_sortedI (os := os) (n := n) (ts := l.mergeSort fun x y => decide (x ≤ y)) hlen hb hg h1 h2 h3
    unfold OwnI
    rw [hlen]
    exact h5
theorem compact_own (B : Nat) (v : Value) (l : List Int) (w : World) (h : OwnI w B v l) (hl : l.length ≤ 9000000) :
    Calls Tryz.prog 19 #[v] w fun e w' => (∃ u, e = .returned u ∧ OwnI w' B u (Lib.compact l)) ∧ Below B w w' := by
  rcases h.2 with ⟨rfl, h0⟩ | ⟨g, cap, cur, rfl, hb, hg, h1, h2, h3, h4⟩
  · have e : l = [] := List.length_eq_zero_iff.1 h0
    subst e
    refine (Tryz.slices_Compact_int_empty none 0 w).mono ?_
    rintro e w' ⟨rfl, rfl⟩
    exact ⟨⟨_, rfl, by simpa [Lib.compact, Lib.compactUpTo] using h⟩, Below.refl _ _⟩
  · have h4' := h4
    rw [Nat.mul_one] at h4'
    refine (Tryz.slices_Compact_int g 0 cap l w (holds_of_blockI hg h4') (by omega) h1).mono ?_
    rintro e w' ⟨rfl, q, rfl⟩
    refine ⟨⟨_, rfl, ?_⟩, Lib.below_putRow (Below.refl _ _) hb⟩
    have hc := compact_len l
    have h5 := Lib.ownsRow_putRow (q := q) (k := (Lib.compact l).length) (ys := Lib.compact l ++ List.replicate (l.length - (Lib.compact l).length) 0) h (by simp; omega) hc
    rw [List.take_left] at h5
    exact h5
theorem union_ok (l m : List Int) : SetL (Lib.compact ((l ++ m).mergeSort fun x y => decide (x ≤ y))) (fun x => x ∈ l ∨ x ∈ m) ∧ (Lib.compact ((l ++ m).mergeSort fun x y => decide (x ≤ y))).length ≤ l.length + m.length := by
  refine ⟨set_cong (union_set (l ++ m)) fun x => List.mem_append, ?_⟩
  have h := compact_len ((l ++ m).mergeSort fun x y => decide (x ≤ y))
  rw [List.length_mergeSort, List.length_append] at h
  exact h
set_option maxRecDepth 100000 in
set_option maxHeartbeats 4000000 in
theorem union_any (v u : Value) (l m : List Int) (w : World) (hv : IntsV w v l) (hu : IntsV w u m) (hl : l.length + m.length ≤ 8000000) :
    Calls Tryz.prog 8 #[v, u] w fun e w' => (∃ r l', e = .returned r ∧ IntsV w' r l' ∧ SetL l' (fun x => x ∈ l ∨ x ∈ m) ∧ l'.length ≤ l.length + m.length) ∧ Below w.heap.size w w' := by
  have hbA : ∀ o, Below w.heap.size w (w.alloc o) := fun o => (Below.refl _ _).alloc (Nat.le_refl _) _
  have HC := hide (concatI_any v u l m w.heap.size 2 (w.alloc (.cells #[v, u] 22)) (new_cell ..) (new_cell ..) (hv.on (hbA _)) (hu.on (hbA _)) hl)
  have HBA := hide (hbA (.cells #[v, u] 22))
  obtain ⟨hok1, hok2⟩ := union_ok l m
  have HOK1 := hide hok1
  have HOK2 := hide hok2
  have hlen : (l ++ m).length ≤ 9000000 := by rw [List.length_append]; omega
  obtain ⟨av, cv, rfl, _⟩ := hv
  obtain ⟨au, cu, rfl, _⟩ := hu
  clear hok1 hok2 hbA
  go_enter Tryz.func8, Tryz.ntmps8
  go_wp2_with fail
  refine (unhide HC).mono ?_
  rintro e w1 ⟨⟨r, rfl, hr⟩, hb1⟩
  have HS := hide (sort_own _ r (l ++ m) w1 hr hlen)
  have HB1 := hide hb1
  clear hr hb1
  go_wp2_with fail
  refine (unhide HS).mono ?_
  rintro e w2 ⟨rfl, hr2, hb2⟩
  have HK := hide (compact_own _ r _ w2 hr2 (by rw [List.length_mergeSort]; exact hlen))
  have HB2 := hide hb2
  clear hr2 hb2
  go_wp2_with fail
  refine (unhide HK).mono ?_
  rintro e w3 ⟨⟨r3, rfl, hr3⟩, hb3⟩
  have HI3 := hide (ownI_ints hr3)
  have HB3 : Hid (Below w.heap.size w w3) := hide (by
    have h1 := (unhide HBA).trans ((unhide HB1).mono (by simp))
    exact (h1.trans ((unhide HB2).mono (by simp))).trans (hb3.mono (by simp)))
  clear hr3 hb3
  go_wp2
  go_ret
  first | exact ⟨⟨_, _, rfl, unhide HI3, unhide HOK1, unhide HOK2⟩, unhide HB3⟩ | exact ⟨⟨_, rfl, _, unhide HI3, unhide HOK1, unhide HOK2⟩, unhide HB3⟩
end Go.Proofs.YtppkilblkobkhaaGreatDoor
