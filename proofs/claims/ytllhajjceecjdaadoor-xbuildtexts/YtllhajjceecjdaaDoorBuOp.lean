/- The first element: xbuild's Open where none is open. -/
import Derived.Test.YtllhajjceecjdaaDoorGbj
namespace Go.Proofs.YtllhajjceecjdaaDoor
open Go.RowKit Go.Maps
theorem Kp.more {S S' : Nat → Prop} {w w' : World} (h : Kp S w w') (hS : ∀ k, S k → S' k) : Kp S' w w' := ⟨h.os, h.tape, h.output, h.size, fun k hk hn => h.block k hk fun hs => hn (hS k hs)⟩
theorem blk_kp {w w' : World} {S : Nat → Prop} (hk : Kp S w w') {q : Nat} {o : Obj} (h : w.heap[q]? = some o) (hq : ¬ S q) : w'.heap[q]? = some o :=
  (hk.block q (Array.getElem?_eq_some_iff.1 h).1 hq).trans h
theorem owns_kp {w w' : World} {B : Nat} {e : TypeId} {size n : Nat} {v : Value} {xs : List Value} {S : Nat → Prop} (h : w.ownsRow B e size v n xs) (hk : Kp S w w') (hne : ∀ k, v.ownBlock = some k → ¬ S k) : w'.ownsRow B e size v n xs := by
  refine ⟨h.1, ?_⟩
  rcases h.2 with h0 | ⟨g, cap, cur, rfl, h2, h3, h4⟩
  · exact .inl h0
  · exact .inr ⟨g, cap, cur, rfl, h2, blk_kp hk h3 (hne g rfl), h4⟩
theorem own_two {w : World} {B B' : Nat} {e e' : TypeId} {size size' n n' : Nat} {v v' : Value} {xs xs' : List Value} (h : w.ownsRow B e size v n xs) (h' : w.ownsRow B' e' size' v' n' xs') (hee : e ≠ e') : ∀ k, v.ownBlock = some k → v'.ownBlock = some k → False := by
  intro k h1 h2
  rcases h.2 with ⟨rfl, _⟩ | ⟨g, cap, cur, rfl, _, h3, _⟩
  · cases h1
  · cases h1
    rcases h'.2 with ⟨rfl, _⟩ | ⟨g', cap', cur', rfl, _, h5, _⟩
    · cases h2
    · cases h2
      rw [h3] at h5
      injection h5 with h5
      injection h5 with _ h6 _
      exact hee h6
theorem map_kp {w w' : World} {S : Nat → Prop} (hk : Kp S w w') {m n : Nat} {D : DataW Unit} (h : w.ownsMap Tryd.prog 9 entElem m n D) (hm : ¬ S m) : w'.ownsMap Tryd.prog 9 entElem m n D := by
  obtain ⟨es, ck, h1, h2⟩ := h
  exact ⟨es, ck, blk_kp hk h1 hm, h2⟩
set_option maxRecDepth 100000 in
set_option maxHeartbeats 4000000 in
theorem open_top (B p : Nat) (ao : Option Addr) (cc : Nat) (vn : Value) (k : Int) (n : Nat) (xs : List Value) (nm : Nm) (w : World) (h : BV w p (.slice ao 0 cc) vn k) (hr : w.ownsRow B 80 1 vn n xs) (ho : w.ownsRow B 77 1 (.slice ao 0 cc) 0 []) (hk0 : 0 ≤ k) (hk : k < 4096) (hn : n ≤ 90000) (hB : B ≤ w.heap.size)
    (h0 : okL nm.uri) (h1 : okL nm.pre) (h2 : okL nm.loc) (z1 : (T nm.pre).size ≤ 1048576) (z2 : (T nm.loc).size ≤ 1048576) (hE : Env w) (he : elemB nm = true) :
    Calls Tryd.prog 16 #[.pointer (some ⟨p, 0, none⟩), .agg #[.string (T nm.uri), .string (T nm.pre), .string (T nm.loc)]] w fun e w' => e = .returned (.int .i64 0) ∧ ∃ q m v' vo, w.heap.size ≤ q ∧ w.heap.size ≤ m ∧ EV w' q (.slice none 0 0) nm (.slice none 0 0) (.map (some m)) ∧ w'.ownsMap Tryd.prog 9 entElem m 0 (scD []) ∧ BV w' p vo v' (k + 1) ∧ w'.ownsRow B 80 1 v' (n + 1) (xs ++ [.iface 77 (.pointer (some ⟨q, 0, none⟩))]) ∧ w'.ownsRow B 77 1 vo 1 [.pointer (some ⟨q, 0, none⟩)] ∧ Kp (fun j => j = p ∨ vn.ownBlock = some j ∨ (Value.slice ao 0 cc).ownBlock = some j) w w' := by
  have HIE := hide (fun w' (hb : Below w.heap.size w w') => isElementName_any nm w' h0 h1 h2 z1 z2 (hE.below hb))
  rw [he] at HIE
  have HD := hide (fun w' (hb : Below w.heap.size w w') => deep_any p ao 0 cc vn k w' (block_below h hb))
  have HF := hide (fun w' (hb : Below w.heap.size w w') => isFull_any p (.slice ao 0 cc) vn k w' (block_below h hb))
  have HB := hide h
  have HR := hide hr
  have HO := hide ho
  have HBP := hide h
  have hk' : (k == 4096) = false := by simp; omega
  clear h hr ho he hE
  go_enter Tryd.func16, Tryd.ntmps16
  go_wp2_with fail
  refine (unhide HIE _ (by (repeat first | assumption | refine Below.drew ?_ | refine Below.setCell ?_ (by first | omega | (simp; omega) | (simp; done)) _ | refine Below.alloc ?_ (by first | omega | (simp; omega) | (simp; done)) _ | exact Below.refl _ _))).mono ?_
  rintro e w1 ⟨rfl, hb1⟩
  have hN1 : w1.heap[w.heap.size]? = some (.cells #[.string (T nm.uri), .string (T nm.pre), .string (T nm.loc)] 61 (0, 0)) := block_below (alloc_new _ _) hb1
  have hbw : Below w.heap.size w w1 := Below.then ((Below.refl _ _).alloc (Nat.le_refl _) _) hb1
  have a0 := blk_cell hN1 0
  have a1 := blk_cell hN1 1
  have a2 := blk_cell hN1 2
  have hlt1 : w.heap.size < w1.heap.size := (Array.getElem?_eq_some_iff.1 hN1).1
  have hmk : ∀ W : World, (Instr.makeMap 58 none).run Tryd.prog W = .ok (.map (some W.heap.size)) (W.alloc (.map #[] 0)) := fun W => rfl
  clear hb1 hN1 HIE
  go_wp2_with (first | (go_at_call 14; refine (unhide HD _ hbw).mono ?_; rintro e w' ⟨rfl, hw'⟩; have hw2 := hw'.symm; clear hw'; subst hw2) | (go_at_call 12; refine (unhide HF _ hbw).mono ?_; rintro e w' ⟨rfl, hw'⟩; have hw2 := hw'.symm; clear hw'; subst hw2))
  have hq : ((w1.alloc (.map #[] 0)).alloc (.cells #[.slice none 0 0, .string (T nm.uri), .string (T nm.pre), .string (T nm.loc), .slice none 0 0, .map (some w1.heap.size)] 76)).heap[w1.heap.size + 1]? = some (.cells #[.slice none 0 0, .string (T nm.uri), .string (T nm.pre), .string (T nm.loc), .slice none 0 0, .map (some w1.heap.size)] 76 (0, 0)) := by
    have := alloc_new (w1.alloc (.map #[] 0)) (.cells #[.slice none 0 0, .string (T nm.uri), .string (T nm.pre), .string (T nm.loc), .slice none 0 0, .map (some w1.heap.size)] 76)
    simpa using this
  have hm : ((w1.alloc (.map #[] 0)).alloc (.cells #[.slice none 0 0, .string (T nm.uri), .string (T nm.pre), .string (T nm.loc), .slice none 0 0, .map (some w1.heap.size)] 76)).ownsMap Tryd.prog 9 entElem w1.heap.size 0 (scD []) :=
    map_kp (S := fun _ => False) (Kp.of ((Below.refl _ _).alloc (Nat.le_refl _) _)) (World.ownsMap_made _ _ _ _) (fun h => h)
  have hb2 : Below w.heap.size w ((w1.alloc (.map #[] 0)).alloc (.cells #[.slice none 0 0, .string (T nm.uri), .string (T nm.pre), .string (T nm.loc), .slice none 0 0, .map (some w1.heap.size)] 76)) := by
    (repeat first | assumption | refine Below.drew ?_ | refine Below.setCell ?_ (by first | omega | (simp; omega) | (simp; done)) _ | refine Below.alloc ?_ (by first | omega | (simp; omega) | (simp; done)) _ | exact Below.refl _ _)
  have hws : w.heap.size ≤ w1.heap.size := hbw.size
  generalize ((w1.alloc (.map #[] 0)).alloc (.cells #[.slice none 0 0, .string (T nm.uri), .string (T nm.pre), .string (T nm.loc), .slice none 0 0, .map (some w1.heap.size)] 76)) = W2 at hq hm hb2 ⊢
  have hp2 := block_below (unhide HB) hb2
  have hr2 := owns_below (unhide HR) hb2
  have ho2 := owns_below (unhide HO) hb2
  have hpl : p < w.heap.size := (Array.getElem?_eq_some_iff.1 (unhide HB)).1
  have HPUT := hide (put_top B p ao cc vn k 77 (.pointer (some ⟨w1.heap.size + 1, 0, none⟩)) n xs W2 hp2 hr2 (own_apart hr2 hp2 (by decide)) hk0 (by omega) (by omega) (Nat.le_trans hB hb2.size))
  have HVL := hide (fun k hk => ((unhide HR).lt k hk).2)
  have HOL := hide (fun k hk => ((unhide HO).lt k hk).2)
  have HN2 := hide (own_two ho2 hr2 (by decide))
  have HO2 := hide ho2
  have HQM := hide (And.intro hq (And.intro hm (And.intro hb2 (And.intro hws hpl))))
  clear hp2 hr2 ho2 hq hm hb2 hpl HB HR HO HD HF a0 a1 a2 hlt1 hbw hmk
  refine (unhide HPUT).mono ?_
  rintro e w3 ⟨rfl, v', p1, p2, p3⟩
  obtain ⟨hq, hm, hb2, hws', hpl⟩ := unhide HQM
  have hS : ∀ j, w.heap.size ≤ j → ¬ (j = p ∨ vn.ownBlock = some j) := fun j hj h => h.elim (fun e => by omega) (fun e => by have := unhide HVL j e; omega)
  have hq3 := blk_kp p3 hq (hS _ (by omega))
  have hm3 := map_kp p3 hm (hS _ hws)
  have ho3 := owns_kp (unhide HO2) p3 (fun j h1 h2 => h2.elim (fun e => own_apart (unhide HO2) (block_below (unhide HBP) hb2) (by decide) j h1 e) (fun e => unhide HN2 j h1 e))
  have hk02 : Kp (fun j => j = p ∨ vn.ownBlock = some j) w w3 := (Kp.of hb2).andThen p3 (fun _ _ h => h)
  have hs3 := hk02.size
  have HPUSH := hide (push_any B p 0 (.slice ao 0 cc) (w1.heap.size + 1) 0 [] _ _ w3 ho3 p1 rfl (own_apart ho3 p1 (by decide)) (by omega) (by omega))
  have HNN := hide (own_two ho3 p2 (by decide))
  have HP := hide (And.intro p1 (And.intro p2 (And.intro hq3 (And.intro hm3 (And.intro hk02 (And.intro hpl hws'))))))
  have HS := hide hS
  clear p1 p2 p3 hq hm hb2 hpl hq3 hm3 ho3 hk02 hs3 hS HPUT HO2 HN2 HBP
  go_wp2_with fail
  refine (unhide HPUSH).mono ?_
  rintro e w4 ⟨rfl, vo, W4, r1, r2, r3, rfl⟩
  obtain ⟨p1, p2, hq3, hm3, hk02, hpl, hws'⟩ := unhide HP
  have hp4 := heap_setCell_same W4 p 0 _ _ vo r3
  have hS4 : ∀ j, w.heap.size ≤ j → ¬ ((Value.slice ao 0 cc).ownBlock = some j) := fun j hj e => by have := unhide HOL j e; omega
  have hKP : Kp (fun j => j = p ∨ vn.ownBlock = some j ∨ (Value.slice ao 0 cc).ownBlock = some j) w (W4.setCell ⟨p, 0, none⟩ vo) :=
    ((hk02.more (S' := fun j => j = p ∨ vn.ownBlock = some j ∨ (Value.slice ao 0 cc).ownBlock = some j) (fun _ h => h.elim .inl (fun h => .inr (.inl h)))).andThen r2 (fun _ _ h => .inr (.inr h))).andThen (Kp.set _ _ _ _) (fun _ _ h => .inl h)
  have HFIN := hide (show ∃ q m v' vo', w.heap.size ≤ q ∧ w.heap.size ≤ m ∧ EV (W4.setCell ⟨p, 0, none⟩ vo) q (.slice none 0 0) nm (.slice none 0 0) (.map (some m)) ∧ (W4.setCell ⟨p, 0, none⟩ vo).ownsMap Tryd.prog 9 entElem m 0 (scD []) ∧ BV (W4.setCell ⟨p, 0, none⟩ vo) p vo' v' (k + 1) ∧ (W4.setCell ⟨p, 0, none⟩ vo).ownsRow B 80 1 v' (n + 1) (xs ++ [.iface 77 (.pointer (some ⟨q, 0, none⟩))]) ∧ (W4.setCell ⟨p, 0, none⟩ vo).ownsRow B 77 1 vo' 1 [.pointer (some ⟨q, 0, none⟩)] ∧ Kp (fun j => j = p ∨ vn.ownBlock = some j ∨ (Value.slice ao 0 cc).ownBlock = some j) w (W4.setCell ⟨p, 0, none⟩ vo) from by
    have hKS := Kp.set W4 p 0 vo
    refine ⟨w1.heap.size + 1, w1.heap.size, v', vo, by omega, hws', ?_, ?_, hp4, ?_, ?_, hKP⟩
    · exact blk_kp hKS (blk_kp r2 hq3 (hS4 _ (by omega))) (by omega)
    · exact map_kp hKS (map_kp r2 hm3 (hS4 _ hws')) (by omega)
    · exact owns_kp (owns_kp p2 r2 (fun j h1 h2 => unhide HNN j h2 h1)) hKS (own_apart (owns_kp p2 r2 (fun j h1 h2 => unhide HNN j h2 h1)) r3 (by decide))
    · exact owns_kp r1 hKS (own_apart r1 r3 (by decide)))
  clear p1 p2 hq3 hm3 hk02 hpl hp4 hS4 hKP r1 r2 r3 hws'
  go_wp2_with fail
  go_returns
  exact ⟨rfl, unhide HFIN⟩
end Go.Proofs.YtllhajjceecjdaaDoor
