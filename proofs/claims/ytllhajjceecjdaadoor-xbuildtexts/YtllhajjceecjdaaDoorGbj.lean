/- Several texts, laid as one. -/
import Derived.Test.YtllhajjceecjdaaDoorBuD
/- A builder in memory, its small steps: xbuild's New, Deep, isFull, inner, innermost, isEmpty, add, push, put, Open. -/
namespace Go.Proofs.YtllhajjceecjdaaDoor
open Go.RowKit Go.Maps
/-- A builder's block. -/
def BV (w : World) (p : Nat) (vo vn : Value) (k : Int) : Prop := w.heap[p]? = some (.cells #[vo, vn, .int .i64 k] 44 (0, 0))
/-- An element's block. -/
def EV (w : World) (p : Nat) (vn : Value) (n : Nm) (va m : Value) : Prop := w.heap[p]? = some (.cells #[vn, .string (T n.uri), .string (T n.pre), .string (T n.loc), va, m] 76 (0, 0))
theorem new_any (w : World) :
    Calls Tryd.prog 4 #[] w fun e w' => e = .returned (.pointer (some ⟨w.heap.size, 0, none⟩)) ∧ w' = w.alloc (.cells #[.slice none 0 0, .slice none 0 0, .int .i64 0] 44) := by
  go_enter Tryd.func4, Tryd.ntmps4
  go_wp2
  go_ret
  exact ⟨rfl, rfl⟩
theorem deep_any (p : Nat) (ao : Option Addr) (n c : Nat) (vn : Value) (k : Int) (w : World) (h : BV w p (.slice ao n c) vn k) :
    Calls Tryd.prog 14 #[.pointer (some ⟨p, 0, none⟩)] w fun e w' => e = .returned (.int .i64 (n : Int)) ∧ w' = w := by
  have c0 : w.cell? ⟨p, 0, none⟩ = some (.slice ao n c) := blk_cell h 0
  go_enter Tryd.func14, Tryd.ntmps14
  go_wp2
  go_returns
  exact ⟨rfl, rfl⟩
theorem isFull_any (p : Nat) (vo vn : Value) (k : Int) (w : World) (h : BV w p vo vn k) :
    Calls Tryd.prog 12 #[.pointer (some ⟨p, 0, none⟩)] w fun e w' => e = .returned (.bool (k == 4096)) ∧ w' = w := by
  have c0 : w.cell? ⟨p, 2, none⟩ = some (.int .i64 k) := blk_cell h 2
  go_enter Tryd.func12, Tryd.ntmps12
  go_wp2
  go_returns
  exact ⟨rfl, rfl⟩
theorem i64W (n : Int) : IntKind.i64.wrap n = wrap64 n := by
  unfold wrap64
  rw [IntKind.wrap_i64]
theorem innermost_any (p g q : Nat) (L n c : Nat) (w : World) (hL : L = n + 1) (hL2 : L ≤ 1000000) (h : w.cell? ⟨p, 0, none⟩ = some (.slice (some ⟨g, 0, none⟩) L c)) (hg : w.cell? ⟨g, n, none⟩ = some (.pointer (some ⟨q, 0, none⟩))) :
    Calls Tryd.prog 22 #[.pointer (some ⟨p, 0, none⟩)] w fun e w' => e = .returned (.pointer (some ⟨q, 0, none⟩)) ∧ Below w.heap.size w w' := by
  have n1 : (0 : Int) ≤ (n : Int) := by omega
  have n2 : (n : Int) < (L : Int) := by omega
  have n3 : IntKind.i64.wrap ((L : Int) - 1) = (n : Int) := by
    have e : wrap64 ((L : Int) - 1) = (n : Int) := by unfold wrap64; omega
    exact (i64W _).trans e
  have n4 : wrap64 ((L : Int) - 1) = (n : Int) := by unfold wrap64; omega
  have HX := hide (show ClsB w w.drew from ⟨(Below.refl _ _).drew⟩)
  have HCE := hide (fun w' (hC : ClsB w w') => And.intro (keptC hC.bel h) (keptC hC.bel hg))
  clear hL hL2
  go_enter Tryd.func22, Tryd.ntmps22
  go_wp2_with fail
  refine wp_region_cls (ClsB w) (by kernel_rfl) (by kernel_rfl) (unhide HX) ?_
  repeat
    (first
      | go_big_quiet_skip
      | (go_big_quiet_want
         go_big_quiet_op
         first
           | go_big_quiet_on
           | (apply Exists.intro
              refine ⟨fun w' hC => ?_, ?_⟩
              · (obtain ⟨k0, k1⟩ := unhide HCE _ hC; go_simp; first | done | rfl)
              go_big_quiet_on)))
  refine wpQuiet_nil ?_
  intro w2 hC2
  have hb := hC2.bel
  clear hC2 HX HCE
  go_wp2
  go_returns
  exact ⟨rfl, hb⟩
theorem isEmpty_any (p o : Nat) (ao : Option Addr) (n c : Nat) (w : World) (h : w.cell? ⟨p, o, none⟩ = some (.slice ao n c)) :
    Calls Tryd.prog 23 #[.pointer (some ⟨p, o, none⟩)] w fun e w' => e = .returned (.bool ((n : Int) == 0)) ∧ w' = w := by
  go_enter Tryd.func23, Tryd.ntmps23
  go_wp2
  go_returns
  exact ⟨rfl, rfl⟩
theorem inner_top (p : Nat) (ao : Option Addr) (c : Nat) (vn : Value) (k : Int) (w : World) (h : BV w p (.slice ao 0 c) vn k) :
    Calls Tryd.prog 10 #[.pointer (some ⟨p, 0, none⟩)] w fun e w' => e = .returned (.pointer (some ⟨p, 1, none⟩)) ∧ w' = w := by
  have HD := hide (fun w' (hw : w' = w) => deep_any p ao 0 c vn k w' (by rw [hw]; exact h))
  go_enter Tryd.func10, Tryd.ntmps10
  go_wp2_with fail
  refine (unhide HD _ rfl).mono ?_
  rintro e w1 ⟨rfl, rfl⟩
  go_wp2
  go_returns
  exact ⟨rfl, rfl⟩
end Go.Proofs.YtllhajjceecjdaaDoor
/- A builder's rows: xbuild's add, push. -/
namespace Go.Proofs.YtllhajjceecjdaaDoor
open Go.RowKit Go.Maps
theorem infoNodeB : (Tryd.prog.info? 80).map (fun i => (i.zero, i.size, i.bytes)) = some (some .nilIface, 1, 16) := by kernel_rfl
theorem infoElB : (Tryd.prog.info? 77).map (fun i => (i.zero, i.size, i.bytes)) = some (some (.pointer none), 1, 8) := by kernel_rfl
theorem cell_at {w : World} {p o : Nat} {c : Array Value} {t : TypeId} {z : Nat × Nat} {v : Value} (h : w.heap[p]? = some (.cells c t z)) (hc : c[o]? = some v) : w.cell? ⟨p, o, none⟩ = some v := by
  rw [blk_cell h o, hc]
set_option maxRecDepth 100000 in
set_option maxHeartbeats 4000000 in
theorem add_any (B p o : Nat) (vn : Value) (tt : TypeId) (xv : Value) (n : Nat) (xs : List Value) (c : Array Value) (t : TypeId) (w : World) (hr : w.ownsRow B 80 1 vn n xs) (hp : w.heap[p]? = some (.cells c t (0, 0))) (hc : c[o]? = some vn) (hne : ∀ k, vn.ownBlock = some k → k ≠ p) (hn : n ≤ 100000) (hB : B ≤ w.heap.size) :
    Calls Tryd.prog 24 #[.pointer (some ⟨p, o, none⟩), .iface tt xv] w fun e w' => e = .returned (.tuple #[]) ∧ ∃ v' W, W.ownsRow B 80 1 v' (n + 1) (xs ++ [.iface tt xv]) ∧ Kp (fun k => vn.ownBlock = some k) w W ∧ W.heap[p]? = some (.cells c t (0, 0)) ∧ w' = W.setCell ⟨p, o, none⟩ v' := by
  have HR := hide hr
  have HP := hide hp
  have HNE := hide hne
  have c0 : w.cell? ⟨p, o, none⟩ = some vn := cell_at hp hc
  obtain ⟨i0, hi, hz0, hz1, hz2⟩ := info_parts infoNodeB
  have hlt : p < w.heap.size := (Array.getElem?_eq_some_iff.1 hp).1
  clear hr hp hne
  go_enter Tryd.func24, Tryd.ntmps24
  go_upto_region 0 with fail
  go_wp2_with (at_builtin; refine wpList_append_own _ rfl _ _ 40 rfl B 80 i0 _ 1 16 Tryd.underlying40 hi hz0 hz1 hz2 rfl (by decide) vn n xs rfl (owns_below (unhide HR) ((Below.refl _ _).alloc (Nat.le_refl _) _)) ⟨w.heap.size, 0, none⟩ 1 1 [.iface tt xv] rfl rfl (newsI1 (by simp [go_sem])) (fun u hu => by simp at hu; subst hu; rfl) (by unfold maxLen; omega) (by omega) (by simp; omega) ?_; intro v8 w8 hown8 hgrow8 _; obtain ⟨a8, b8, rfl⟩ := owns_slice hown8; (have hP8 : w8.heap[p]? = some (.cells c t (0, 0)) := (hgrow8.block p (by simp; omega) (fun e => unhide HNE _ e.symm rfl)).trans ((Below.heap_alloc _ _ p hlt).trans (unhide HP))); (have c8 := cell_at hP8 hc); (have o8 := blk_open hP8 o); (have HP8 := hide hP8); (have HO8 := hide hown8); (have HG8 := hide hgrow8); clear hP8 hown8 hgrow8)
  go_returns
  exact ⟨rfl, _, w8, unhide HO8, (Kp.of ((Below.refl _ w).alloc (Nat.le_refl _) _)).grown (unhide HG8) (fun j e _ => e), unhide HP8, rfl⟩
set_option maxRecDepth 100000 in
set_option maxHeartbeats 4000000 in
theorem push_any (B p o : Nat) (vn : Value) (q : Nat) (n : Nat) (xs : List Value) (c : Array Value) (t : TypeId) (w : World) (hr : w.ownsRow B 77 1 vn n xs) (hp : w.heap[p]? = some (.cells c t (0, 0))) (hc : c[o]? = some vn) (hne : ∀ k, vn.ownBlock = some k → k ≠ p) (hn : n ≤ 100000) (hB : B ≤ w.heap.size) :
    Calls Tryd.prog 26 #[.pointer (some ⟨p, o, none⟩), .pointer (some ⟨q, 0, none⟩)] w fun e w' => e = .returned (.tuple #[]) ∧ ∃ v' W, W.ownsRow B 77 1 v' (n + 1) (xs ++ [.pointer (some ⟨q, 0, none⟩)]) ∧ Kp (fun k => vn.ownBlock = some k) w W ∧ W.heap[p]? = some (.cells c t (0, 0)) ∧ w' = W.setCell ⟨p, o, none⟩ v' := by
  have HR := hide hr
  have HP := hide hp
  have HNE := hide hne
  have c0 : w.cell? ⟨p, o, none⟩ = some vn := cell_at hp hc
  obtain ⟨i0, hi, hz0, hz1, hz2⟩ := info_parts infoElB
  have hlt : p < w.heap.size := (Array.getElem?_eq_some_iff.1 hp).1
  clear hr hp hne
  go_enter Tryd.func26, Tryd.ntmps26
  go_upto_region 0 with fail
  go_wp2_with (at_builtin; refine wpList_append_own _ rfl _ _ 37 rfl B 77 i0 _ 1 8 Tryd.underlying37 hi hz0 hz1 hz2 rfl (by decide) vn n xs rfl (owns_below (unhide HR) ((Below.refl _ _).alloc (Nat.le_refl _) _)) ⟨w.heap.size, 0, none⟩ 1 1 [.pointer (some ⟨q, 0, none⟩)] rfl rfl (newsI1 (by simp [go_sem])) (fun u hu => by simp at hu; subst hu; rfl) (by unfold maxLen; omega) (by omega) (by simp; omega) ?_; intro v8 w8 hown8 hgrow8 _; obtain ⟨a8, b8, rfl⟩ := owns_slice hown8; (have hP8 : w8.heap[p]? = some (.cells c t (0, 0)) := (hgrow8.block p (by simp; omega) (fun e => unhide HNE _ e.symm rfl)).trans ((Below.heap_alloc _ _ p hlt).trans (unhide HP))); (have c8 := cell_at hP8 hc); (have o8 := blk_open hP8 o); (have HP8 := hide hP8); (have HO8 := hide hown8); (have HG8 := hide hgrow8); clear hP8 hown8 hgrow8)
  go_returns
  exact ⟨rfl, _, w8, unhide HO8, (Kp.of ((Below.refl _ w).alloc (Nat.le_refl _) _)).grown (unhide HG8) (fun j e _ => e), unhide HP8, rfl⟩
end Go.Proofs.YtllhajjceecjdaaDoor
/- A node put at the top: xbuild's put. -/
namespace Go.Proofs.YtllhajjceecjdaaDoor
open Go.RowKit Go.Maps
theorem owns_setOther {w : World} {B : Nat} {e : TypeId} {size n p i : Nat} {v u : Value} {xs : List Value} (h : w.ownsRow B e size v n xs) (hne : ∀ k, v.ownBlock = some k → k ≠ p) : (w.setCell ⟨p, i, none⟩ u).ownsRow B e size v n xs := by
  refine ⟨h.1, ?_⟩
  rcases h.2 with h0 | ⟨g, cap, cur, rfl, h2, h3, h4⟩
  · exact .inl h0
  · refine .inr ⟨g, cap, cur, rfl, h2, ?_, h4⟩
    rw [heap_setCell_other _ _ _ _ (hne g rfl)]
    exact h3
theorem Kp.set (w : World) (p i : Nat) (v : Value) : Kp (fun j => j = p) w (w.setCell ⟨p, i, none⟩ v) :=
  ⟨rfl, rfl, rfl, by simp, fun j _ hS => by rw [heap_setCell_other _ _ _ _ hS]⟩
theorem own_apart {w : World} {B p : Nat} {e t : TypeId} {size n : Nat} {v : Value} {xs : List Value} {c : Array Value} (h : w.ownsRow B e size v n xs) (hp : w.heap[p]? = some (.cells c t (0, 0))) (ht : e ≠ t) : ∀ k, v.ownBlock = some k → k ≠ p := by
  rintro k hk rfl
  rcases h.2 with ⟨rfl, _⟩ | ⟨g, cap, cur, rfl, h2, h3, h4⟩
  · cases hk
  · cases hk
    rw [hp] at h3
    injection h3 with h3
    injection h3 with _ h5 _
    exact ht h5.symm
set_option maxRecDepth 100000 in
set_option maxHeartbeats 4000000 in
theorem put_top (B p : Nat) (ao : Option Addr) (cc : Nat) (vn : Value) (k : Int) (tt : TypeId) (xv : Value) (n : Nat) (xs : List Value) (w : World) (h : BV w p (.slice ao 0 cc) vn k) (hr : w.ownsRow B 80 1 vn n xs) (hne : ∀ k, vn.ownBlock = some k → k ≠ p) (hk0 : 0 ≤ k) (hk : k ≤ 100000) (hn : n ≤ 100000) (hB : B ≤ w.heap.size) :
    Calls Tryd.prog 13 #[.pointer (some ⟨p, 0, none⟩), .iface tt xv] w fun e w' => e = .returned (.tuple #[]) ∧ ∃ v', BV w' p (.slice ao 0 cc) v' (k + 1) ∧ w'.ownsRow B 80 1 v' (n + 1) (xs ++ [.iface tt xv]) ∧ Kp (fun j => j = p ∨ vn.ownBlock = some j) w w' := by
  have c2 : w.cell? ⟨p, 2, none⟩ = some (.int .i64 k) := blk_cell h 2
  have o2 := blk_open h 2
  have h1 : BV (w.setCell ⟨p, 2, none⟩ (.int .i64 (k + 1))) p (.slice ao 0 cc) vn (k + 1) := heap_setCell_same w p 2 _ _ _ h
  have hr1 := owns_setOther (i := 2) (u := .int .i64 (k + 1)) hr hne
  obtain ⟨W, hW⟩ : ∃ W, w.setCell ⟨p, 2, none⟩ (.int .i64 (k + 1)) = W := ⟨_, rfl⟩
  have hkp : Kp (fun j => j = p ∨ vn.ownBlock = some j) w W := by
    rw [← hW]
    exact ⟨rfl, rfl, rfl, by simp, fun j hj hS => by rw [heap_setCell_other _ _ _ _ (fun e => hS (.inl e))]⟩
  have hs : W.heap.size = w.heap.size := by rw [← hW]; simp
  rw [hW] at h1 hr1
  have HI := hide (inner_top p ao cc vn (k + 1) W h1)
  have HA := hide (add_any B p 1 vn tt xv n xs _ _ W hr1 h1 rfl hne hn (by omega))
  have HK := hide hkp
  clear h hr hr1 hne hkp hs h1
  go_enter Tryd.func13, Tryd.ntmps13
  go_wp2_with fail
  clear hW c2 o2
  refine (unhide HI).mono ?_
  rintro e w1 ⟨rfl, rfl⟩
  go_wp2_with fail
  refine (unhide HA).mono ?_
  rintro e w2 ⟨rfl, v', W2, r1, r2, r3, rfl⟩
  have HF := hide (And.intro (heap_setCell_same W2 p 1 _ _ v' r3) (And.intro r1 r2))
  have HNE2 := hide (show ∀ k, v'.ownBlock = some k → k ≠ p from fun j hj e => by
    subst e
    exact own_apart r1 r3 (by decide) j hj rfl)
  clear r1 r2 r3
  go_wp2_with fail
  go_returns
  exact ⟨rfl, v', (unhide HF).1, owns_setOther (unhide HF).2.1 (unhide HNE2), ((unhide HK).andThen (unhide HF).2.2 (fun j _ h => .inr h)).andThen (Kp.set _ _ _ _) (fun j _ h => .inl h)⟩
end Go.Proofs.YtllhajjceecjdaaDoor
