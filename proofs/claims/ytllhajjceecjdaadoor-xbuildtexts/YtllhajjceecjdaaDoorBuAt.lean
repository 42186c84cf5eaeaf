/- The first attribute of the first element: xbuild's isAtTag, placeOf, Attr. -/
import Derived.Test.YtllhajjceecjdaaDoorBuOp
import Derived.Deep.AppendLies
import Derived.Deep.RegionHeld3
namespace Go.Proofs.YtllhajjceecjdaaDoor
open Go.RowKit Go.Maps
/-- An element is open, alone. -/
structure OneOpen (w : World) (p q : Nat) (vn : Value) (k : Int) (nm : Nm) (va m : Value) : Prop where
  bv : ∃ g c, BV w p (.slice (some ⟨g, 0, none⟩) 1 c) vn k ∧ w.cell? ⟨g, 0, none⟩ = some (.pointer (some ⟨q, 0, none⟩)) ∧ 1 ≤ c
  ev : EV w q (.slice none 0 0) nm va m
theorem OneOpen.on {w w' : World} {p q : Nat} {vn : Value} {k : Int} {nm : Nm} {va m : Value} (h : OneOpen w p q vn k nm va m) (hb : Below w.heap.size w w') : OneOpen w' p q vn k nm va m := by
  obtain ⟨⟨g, c, h1, h2, h4⟩, h3⟩ := h
  exact ⟨⟨g, c, block_below h1 hb, keptC hb h2, h4⟩, block_below h3 hb⟩
set_option maxHeartbeats 1000000 in
theorem isAtTag_one (p q : Nat) (vn : Value) (k : Int) (nm : Nm) (va m : Value) (w : World) (h : OneOpen w p q vn k nm va m) :
    Calls Tryd.prog 28 #[.pointer (some ⟨p, 0, none⟩)] w fun e w' => e = .returned (.bool true) ∧ Below w.heap.size w w' := by
  obtain ⟨⟨g, c, h1, h2, _⟩, h3⟩ := h
  have HD := hide (fun w' (hb : Below w.heap.size w w') => deep_any p _ 1 c vn k w' (block_below h1 hb))
  have HI := hide (fun w' (hb : Below w.heap.size w w') => innermost_any p g q 1 0 c w' rfl (by decide) (keptC hb (blk_cell h1 0)) (keptC hb h2))
  have HE := hide (fun w' (hb : Below w.heap.size w w') => isEmpty_any q 0 none 0 0 w' (keptC hb (blk_cell h3 0)))
  clear h1 h2 h3
  go_enter Tryd.func28, Tryd.ntmps28
  go_wp2_with fail
  refine (unhide HD _ (Below.refl _ _)).mono ?_
  rintro e w1 ⟨rfl, rfl⟩
  go_wp2_with fail
  refine (unhide HI _ (Below.refl _ _)).mono ?_
  rintro e w2 ⟨rfl, hb2⟩
  go_wp2_with fail
  refine (unhide HE _ hb2).mono ?_
  rintro e w3 ⟨rfl, hw3⟩
  have hw4 := hw3.symm
  clear hw3 HD HI HE
  subst hw4
  go_wp2
  go_returns
  exact ⟨rfl, hb2⟩
set_option maxHeartbeats 1000000 in
theorem placeOf_none (q : Nat) (vn : Value) (nm n2 : Nm) (m : Value) (w : World) (h : EV w q vn nm (.slice none 0 0) m) :
    Calls Tryd.prog 29 #[.pointer (some ⟨q, 0, none⟩), .agg #[.string (T n2.uri), .string (T n2.pre), .string (T n2.loc)]] w fun e w' => e = .returned (.int .i64 0) ∧ Below w.heap.size w w' := by
  have c4 : w.cell? ⟨q, 4, none⟩ = some (.slice none 0 0) := blk_cell h 4
  have hlt : q < w.heap.size := (Array.getElem?_eq_some_iff.1 h).1
  have hb : Below w.heap.size w (w.alloc (.cells #[.string (T n2.uri), .string (T n2.pre), .string (T n2.loc)] 61)) := (Below.refl _ _).alloc (Nat.le_refl _) _
  clear h
  go_enter Tryd.func29, Tryd.ntmps29
  go_wp2_with fail
  have c5 := keptC hb c4
  generalize (w.alloc (.cells #[.string (T n2.uri), .string (T n2.pre), .string (T n2.loc)] 61)) = W at hb c5 ⊢
  clear c4
  go_loopw [12] (fun i wr => i = .int .i64 0 ∧ wr = W) (fun _ _ => 0)
  case atStart => exact ⟨rfl, rfl⟩
  case round =>
    obtain ⟨rfl, rfl⟩ := hrel
    go_wp2
    go_returns
    exact ⟨rfl, hb⟩
theorem infoAtB : (Tryd.prog.info? 85).map (fun i => (i.zero, i.size, i.bytes)) = some (some (.agg #[.string ⟨#[]⟩, .string ⟨#[]⟩, .string ⟨#[]⟩, .string ⟨#[]⟩]), 4, 64) := by kernel_rfl
theorem cell_other {w : World} {p i g o : Nat} {v : Value} (h : g ≠ p) : (w.setCell ⟨p, i, none⟩ v).cell? ⟨g, o, none⟩ = w.cell? ⟨g, o, none⟩ := by
  have := heap_setCell_other w ⟨p, i, none⟩ g v h
  simp only [World.cell?, this]
set_option maxRecDepth 100000 in
set_option maxHeartbeats 4000000 in
theorem attr_one (p q : Nat) (vn : Value) (k : Int) (nm n2 : Nm) (v : List Nat) (m : Value) (w : World) (h : OneOpen w p q vn k nm (.slice none 0 0) m) (hpq : p ≠ q) (hk0 : 0 ≤ k) (hk : k < 4096)
    (h0 : okL n2.uri) (h1 : okL n2.pre) (h2 : okL n2.loc) (z1 : (T n2.pre).size ≤ 1048576) (z2 : (T n2.loc).size ≤ 1048576) (hv : okL v) (hE : Env w) (he : attrB n2 = true) :
    Calls Tryd.prog 17 #[.pointer (some ⟨p, 0, none⟩), .agg #[.string (T n2.uri), .string (T n2.pre), .string (T n2.loc)], .string (T v)] w fun e w' => e = .returned (.int .i64 0) ∧ ∃ va, OneOpen w' p q vn (k + 1) nm va m ∧ w'.ownsRow w.heap.size 85 4 va 1 [.string (T n2.uri), .string (T n2.pre), .string (T n2.loc), .string (T v)] ∧ Kp (fun j => j = p ∨ j = q) w w' := by
  have HIA := hide (fun w' (hb : Below w.heap.size w w') => isAttributeName_any n2 w' h0 h1 h2 z1 z2 (hE.below hb))
  rw [he] at HIA
  have HIT := hide (fun w' => isText_T v hv w')
  have HAT := hide (fun w' (hb : Below w.heap.size w w') => isAtTag_one p q vn k nm _ m w' (h.on hb))
  have HPL := hide (fun w' (hb : Below w.heap.size w w') => placeOf_none q _ nm n2 m w' (h.on hb).ev)
  obtain ⟨⟨g, c, b1, b2, hc1⟩, b3⟩ := h
  have HIN := hide (fun w' (hb : Below w.heap.size w w') => innermost_any p g q 1 0 c w' rfl (by decide) (keptC hb (blk_cell b1 0)) (keptC hb b2))
  have HFU := hide (fun w' (hb : Below w.heap.size w w') => isFull_any p _ vn k w' (block_below b1 hb))
  have HB1 := hide b1
  have HB2 := hide b2
  have HB3 := hide b3
  have hk' : (k == 4096) = false := by simp; omega
  clear b1 b2 b3 he hE
  go_enter Tryd.func17, Tryd.ntmps17
  go_wp2_with fail
  refine (unhide HIA _ ((Below.refl _ _).alloc (Nat.le_refl _) _)).mono ?_
  rintro e w1 ⟨rfl, hb1⟩
  have hN1 : w1.heap[w.heap.size]? = some (.cells #[.string (T n2.uri), .string (T n2.pre), .string (T n2.loc)] 61 (0, 0)) := block_below (alloc_new _ _) hb1
  have hbw := Below.then ((Below.refl _ w).alloc (Nat.le_refl _) _) hb1
  have HN1 := hide hN1
  clear hb1 hN1 HIA
  go_wp2_with fail
  refine (unhide HIT _).mono ?_
  rintro e w2 ⟨rfl, hb2⟩
  have hN2 := block_below (unhide HN1) hb2
  have HN2 := hide hN2
  have hbw2 := Below.then hbw hb2
  clear hb2 hbw HN1 HIT hN2
  go_wp2_with fail
  refine (unhide HAT _ hbw2).mono ?_
  rintro e w3 ⟨rfl, hb3⟩
  have hN3 := block_below (unhide HN2) hb3
  have hbw3 := Below.then hbw2 hb3
  have HN3 := hide hN3
  clear hb3 hbw2 HN2 HAT hN3
  go_wp2_with fail
  refine (unhide HIN _ hbw3).mono ?_
  rintro e w4 ⟨rfl, hb4⟩
  have hN4 := block_below (unhide HN3) hb4
  have hbw4 := Below.then hbw3 hb4
  have a0 := blk_cell hN4 0
  have a1 := blk_cell hN4 1
  have a2 := blk_cell hN4 2
  have HN4 := hide hN4
  clear hb4 hbw3 HN3 HIN hN4
  go_wp2_with fail
  refine (unhide HPL _ hbw4).mono ?_
  rintro e w5 ⟨rfl, hb5⟩
  have hN5 := block_below (unhide HN4) hb5
  have hbw5 := Below.then hbw4 hb5
  have hq5 := block_below (unhide HB3) hbw5
  have hp5 := block_below (unhide HB1) hbw5
  have hg5 := keptC hbw5 (unhide HB2)
  have c4 := blk_cell hq5 4
  have HF5 := hide (unhide HFU _ hbw5)
  have HQ5 := hide (And.intro hN5 (And.intro hq5 (And.intro hp5 (And.intro hg5 hbw5))))
  clear hb5 hbw4 a0 a1 a2 HN4 HPL HFU HB1 HB2 HB3 hN5 hq5 hp5 hg5 hbw5
  go_wp2_with (go_at_call 12; refine (unhide HF5).mono ?_; rintro e w' ⟨rfl, hw'⟩; have hw2 := hw'.symm; clear hw'; subst hw2)
  obtain ⟨hN5, hq5, hp5, hg5, hbw5⟩ := unhide HQ5
  have a0 := blk_cell hN5 0
  have a1 := blk_cell hN5 1
  have a2 := blk_cell hN5 2
  have hql : q < w5.heap.size := (Array.getElem?_eq_some_iff.1 hq5).1
  have hpl : p < w5.heap.size := (Array.getElem?_eq_some_iff.1 hp5).1
  have hnl : w.heap.size < w5.heap.size := (Array.getElem?_eq_some_iff.1 hN5).1
  obtain ⟨i0, hi, hz0, hz1, hz2⟩ := info_parts infoAtB
  clear hN5 hq5 hp5 hg5 hbw5 HF5
  go_region_law (refine step_append_where rfl (.tmp 60) (.tmp 64) 74 rfl w.heap.size 85 i0 _ 4 64 Tryd.underlying74 hi hz0 hz1 hz2 rfl (by decide) (.slice none 0 0) 0 [] rfl (World.ownsRow_nil _ _ _ _) ⟨w5.heap.size, 0, none⟩ 1 1 [.string (T n2.uri), .string (T n2.pre), .string (T n2.loc), .string (T v)] rfl rfl (news4 (by simp [go_sem]) (by simp [go_sem]) (by simp [go_sem]) (by simp [go_sem])) (fun u hu => by simp at hu; rcases hu with rfl | rfl | rfl | rfl <;> rfl) (by unfold maxLen; omega) (by omega) (by simp; omega) ?_; intro v7 w7 hown7 hgrow7 hat7; obtain ⟨g7, cap7, rfl⟩ := owns_slice hown7; (have hK7 : ∀ k, k < w5.heap.size → w7.heap[k]? = w5.heap[k]? := fun k hk => (hgrow7.block k (by simp; omega) (fun e => by cases e)).trans (Below.heap_alloc _ _ k hk)); (have o7 := blk_open ((hK7 q hql).trans (unhide HQ5).2.1) 4); (have c7 : w7.cell? ⟨q, 4, none⟩ = some (.slice none 0 0) := blk_cell ((hK7 q hql).trans (unhide HQ5).2.1) 4))
  all_goals
    have hq7 := (hK7 q hql).trans (unhide HQ5).2.1
    have hp7 := (hK7 p hpl).trans (unhide HQ5).2.2.1
    have hg7 : w7.cell? ⟨g, 0, none⟩ = some (.pointer (some ⟨q, 0, none⟩)) := by
      have h1 := (unhide HQ5).2.2.2.1
      have h2 := hK7 g (block_lt_of_cell h1)
      simp only [World.cell?, h2] at h1 ⊢
      exact h1
    have hgq : g ≠ q := by
      rintro rfl
      have h1 := (unhide HQ5).2.2.2.1
      rw [blk_cell (unhide HQ5).2.1 0] at h1
      cases h1
    have hgp : g ≠ p := by
      rintro rfl
      have h1 := (unhide HQ5).2.2.2.1
      rw [blk_cell (unhide HQ5).2.2.1 0] at h1
      cases h1
    have hq8 := heap_setCell_same w7 q 4 _ _ (.slice g7 (0 + 1) cap7) hq7
    have hp8 : (w7.setCell ⟨q, 4, none⟩ (.slice g7 (0 + 1) cap7)).heap[p]? = _ := (heap_setCell_other _ _ _ _ hpq).trans hp7
    have hr8 := owns_kp hown7 (Kp.set w7 q 4 (.slice g7 (0 + 1) cap7)) (own_apart hown7 hq7 (by decide))
    have hk8 : Kp (fun j => j = p ∨ j = q) w (w7.setCell ⟨q, 4, none⟩ (.slice g7 (0 + 1) cap7)) :=
      (((Kp.of (unhide HQ5).2.2.2.2).andThen (Kp.of ((Below.refl _ _).alloc (Nat.le_refl _) _).drew) (fun _ _ h => h)).grown hgrow7 (fun j e _ => by cases e)).andThen (Kp.set _ _ _ _) (fun _ _ h => .inr h)
    have c2 : (w7.setCell ⟨q, 4, none⟩ (.slice g7 (0 + 1) cap7)).cell? ⟨p, 2, none⟩ = some (.int .i64 k) := blk_cell hp8 2
    have o2 := blk_open hp8 2
    have hp9 := heap_setCell_same _ p 2 _ _ (.int .i64 (k + 1)) hp8
    have hq9 := (heap_setCell_other _ ⟨p, 2, none⟩ q (.int .i64 (k + 1)) (fun e => hpq e.symm)).trans hq8
    have hr9 := owns_kp hr8 (Kp.set _ p 2 (.int .i64 (k + 1))) (own_apart hr8 hp8 (by decide))
    have hk9 := hk8.andThen (Kp.set _ p 2 (.int .i64 (k + 1))) (fun _ _ h => .inl h)
    have hg9 : ((w7.setCell ⟨q, 4, none⟩ (.slice g7 (0 + 1) cap7)).setCell ⟨p, 2, none⟩ (.int .i64 (k + 1))).cell? ⟨g, 0, none⟩ = some (.pointer (some ⟨q, 0, none⟩)) := by
      rw [cell_other hgp, cell_other hgq]
      exact hg7
    have HFIN := hide (show ∃ va, OneOpen ((w7.setCell ⟨q, 4, none⟩ (.slice g7 (0 + 1) cap7)).setCell ⟨p, 2, none⟩ (.int .i64 (k + 1))) p q vn (k + 1) nm va m ∧ ((w7.setCell ⟨q, 4, none⟩ (.slice g7 (0 + 1) cap7)).setCell ⟨p, 2, none⟩ (.int .i64 (k + 1))).ownsRow w.heap.size 85 4 va 1 [.string (T n2.uri), .string (T n2.pre), .string (T n2.loc), .string (T v)] ∧ Kp (fun j => j = p ∨ j = q) w ((w7.setCell ⟨q, 4, none⟩ (.slice g7 (0 + 1) cap7)).setCell ⟨p, 2, none⟩ (.int .i64 (k + 1))) from ⟨_, ⟨⟨g, c, hp9, hg9, hc1⟩, hq9⟩, hr9, hk9⟩)
    generalize w7.setCell ⟨q, 4, none⟩ (.slice g7 (0 + 1) cap7) = W8 at c2 o2 HFIN ⊢
    clear o7 c7 hq7 hp7 hg7 hgq hgp hq8 hp8 hr8 hk8 hp9 hq9 hr9 hk9 hg9 hown7 hgrow7 hat7 hK7 a0 a1 a2 c4
    have hkw : -9223372036854775808 ≤ k + 1 ∧ k + 1 ≤ 9223372036854775807 := by omega
    go_wp2_with fail
    go_returns
    exact ⟨rfl, unhide HFIN⟩
end Go.Proofs.YtllhajjceecjdaaDoor
