/- A text put, or one that goes on: xbuild's Text. -/
import Derived.Test.YtllhajjceecjdaaDoorBuWd
import Derived.Test.YtllhajjceecjdaaDoorBuOp
namespace Go.Proofs.YtllhajjceecjdaaDoor
open Go.RowKit Go.Maps
set_option maxRecDepth 100000 in
set_option maxHeartbeats 4000000 in
theorem text_form (p : Nat) (s : ByteArray) (w : World) (ht : textB s = false) :
    Calls Tryd.prog 5 #[.pointer (some ⟨p, 0, none⟩), .string s] w fun e w' => e = .returned (.int .i64 5) ∧ Below w.heap.size w w' := by
  have HT := hide (isText_any s w)
  rw [ht] at HT
  clear ht
  go_enter Tryd.func5, Tryd.ntmps5
  go_wp2_with fail
  refine (unhide HT).mono ?_
  rintro e w1 ⟨rfl, hb⟩
  have HB := hide hb
  clear hb HT
  go_wp2_with fail
  go_returns
  exact ⟨rfl, unhide HB⟩
set_option maxRecDepth 100000 in
set_option maxHeartbeats 4000000 in
theorem text_more (B p g c q : Nat) (ao : Option Addr) (cc : Nat) (k : Int) (v : Value) (s0 s : ByteArray) (w : World) (h : BV w p (.slice ao 0 cc) (.slice (some ⟨g, 0, none⟩) 1 c) k) (hg : w.cell? ⟨g, 0, none⟩ = some (.iface 49 (.pointer (some ⟨q, 0, none⟩)))) (hW : WdV B w q v s0) (hn : s0.size + s.size ≤ 1000000) (hB : B ≤ w.heap.size) (ht : textB s = true) (hs : (s.toList == []) = false) :
    Calls Tryd.prog 5 #[.pointer (some ⟨p, 0, none⟩), .string s] w fun e w' => e = .returned (.int .i64 0) ∧ ∃ v', WdV B w' q v' (s0 ++ s) ∧ Kp (fun j => j = q ∨ v.ownBlock = some j) w w' := by
  have HT := hide (isText_any s w)
  rw [ht] at HT
  have HI := hide (fun w' (hb : Below w.heap.size w w') => inner_top p ao cc _ k w' (block_below h hb))
  have HG := hide (fun w' (hb : Below w.heap.size w w') => goesOn_one B p 1 g c q v s0 s w' (keptC hb (blk_cell h 1)) (keptC hb hg) ⟨block_below hW.blk hb, rowM_below hW.row hb⟩ hn (Nat.le_trans hB hb.size))
  clear ht h hg hW
  go_enter Tryd.func5, Tryd.ntmps5
  go_wp2_with fail
  refine (unhide HT).mono ?_
  rintro e w1 ⟨rfl, hb⟩
  have HB1 := hide hb
  clear hb HT
  go_wp2_with fail
  refine (unhide HI _ (unhide HB1)).mono ?_
  rintro e w2 ⟨rfl, hw⟩
  have hw2 := hw.symm
  clear hw HI
  subst hw2
  go_wp2_with fail
  refine (unhide HG _ (unhide HB1)).mono ?_
  rintro e w2 ⟨rfl, hR⟩
  have HR := hide hR
  clear hR HG
  go_wp2_with fail
  go_returns
  obtain ⟨v', r1, r2⟩ := unhide HR
  exact ⟨rfl, v', r1, (Kp.of (unhide HB1)).andThen r2 (fun _ _ h => h)⟩
set_option maxRecDepth 100000 in
set_option maxHeartbeats 4000000 in
theorem text_empty (p : Nat) (s : ByteArray) (w : World) (ht : textB s = true) (hs : (s.toList == []) = true) :
    Calls Tryd.prog 5 #[.pointer (some ⟨p, 0, none⟩), .string s] w fun e w' => e = .returned (.int .i64 0) ∧ Below w.heap.size w w' := by
  have HT := hide (isText_any s w)
  rw [ht] at HT
  clear ht
  go_enter Tryd.func5, Tryd.ntmps5
  go_wp2_with fail
  refine (unhide HT).mono ?_
  rintro e w1 ⟨rfl, hb⟩
  have HB := hide hb
  clear hb HT
  go_wp2_with fail
  go_returns
  exact ⟨rfl, unhide HB⟩
theorem bytes_below (w : World) (e : TypeId) (s : ByteArray) : Below w.heap.size w (Lib.bytesWorld w e s) :=
  ⟨rfl, rfl, rfl, by rw [Lib.bytesWorld_size]; omega, fun k hk => Lib.bytesWorld_at_old w e s k hk⟩
set_option maxRecDepth 100000 in
set_option maxHeartbeats 4000000 in
theorem text_first (B p : Nat) (ao : Option Addr) (cc : Nat) (s : ByteArray) (w : World) (h : BV w p (.slice ao 0 cc) (.slice none 0 0) 0) (hB : B ≤ w.heap.size) (hn : s.size ≤ 1000000) (ht : textB s = true) (hs : (s.toList == []) = false) :
    Calls Tryd.prog 5 #[.pointer (some ⟨p, 0, none⟩), .string s] w fun e w' => e = .returned (.int .i64 0) ∧ ∃ q v vn, WdV B w' q v s ∧ BV w' p (.slice ao 0 cc) vn 1 ∧ w'.ownsRow B 80 1 vn 1 [.iface 49 (.pointer (some ⟨q, 0, none⟩))] ∧ w.heap.size ≤ q ∧ Kp (fun j => j = p) w w' := by
  have HT := hide (isText_any s w)
  rw [ht] at HT
  have HI := hide (fun w' (hb : Below w.heap.size w w') => inner_top p ao cc _ 0 w' (block_below h hb))
  have HG := hide (fun w' (hb : Below w.heap.size w w') => goesOn_none p 1 s w' (keptC hb (blk_cell h 1)))
  have HF := hide (fun w' (hb : Below w.heap.size w w') => isFull_any p _ _ 0 w' (block_below h hb))
  have HH := hide h
  clear ht h
  go_enter Tryd.func5, Tryd.ntmps5
  go_wp2_with fail
  refine (unhide HT).mono ?_
  rintro e w1 ⟨rfl, hb⟩
  have HB1 := hide hb
  clear hb HT
  go_wp2_with fail
  refine (unhide HI _ (unhide HB1)).mono ?_
  rintro e w2 ⟨rfl, hw⟩
  have hw2 := hw.symm
  clear hw HI
  subst hw2
  go_wp2_with fail
  refine (unhide HG _ (unhide HB1)).mono ?_
  rintro e w2 ⟨rfl, hb⟩
  have HB2 := hide (Below.then (unhide HB1) hb)
  clear hb HG HB1
  go_wp2_with fail
  refine (unhide HF _ (unhide HB2)).mono ?_
  rintro e w3 ⟨rfl, hw⟩
  have hw2 := hw.symm
  clear hw HF
  subst hw2
  obtain ⟨k1, hrow⟩ := conv_mark w2 9 50 5 s Tryd.underlying9 Tryd.underlying50 Tryd.underlying5 (by unfold maxLen; omega)
  have hb3 := Below.then (unhide HB2) (bytes_below w2 5 s)
  have hs2 := (unhide HB2).size
  obtain ⟨W3, e3⟩ : ∃ W3, Lib.bytesWorld w2 5 s = W3 := ⟨_, rfl⟩
  obtain ⟨c3, ec⟩ : ∃ c3, grownCap w2 s.size 0 5 = c3 := ⟨_, rfl⟩
  obtain ⟨g3, eg⟩ : ∃ g3, w2.heap.size = g3 := ⟨_, rfl⟩
  rw [e3, ec, eg] at k1 hrow
  rw [e3] at hb3
  rw [eg] at hs2
  clear e3 ec
  have hb4 : Below w.heap.size w (W3.alloc (.cells #[(Value.slice (some ⟨g3, 0, none⟩) s.size c3)] 52)) := hb3.alloc hb3.size _
  have hbv := block_below (unhide HH) hb4
  have hpl : p < w.heap.size := (Array.getElem?_eq_some_iff.1 (unhide HH)).1
  have HPT := hide (put_top B p ao cc (.slice none 0 0) 0 49 (.pointer (some ⟨W3.heap.size, 0, none⟩)) 0 [] _ hbv (World.ownsRow_nil _ _ _ _) (fun k hk => by cases hk) (by omega) (by omega) (by omega) (Nat.le_trans hB hb4.size))
  have HB4 := hide hb4
  have HB3 := hide hb3
  have HROW := hide hrow
  have HS2 := hide hs2
  have HW2 := hide (show w.heap.size ≤ g3 from by rw [← eg]; exact (unhide HB2).size)
  have HPL := hide hpl
  have HBL := hide hB
  clear hb4 hbv hb3 hrow hs2 eg hpl hB hn
  go_wp2_with fail
  refine (unhide HPT).mono ?_
  rintro e w5 ⟨rfl, vn, r1, r2, r3⟩
  have HF := hide (And.intro r1 (And.intro r2 r3))
  clear r1 r2 r3 HPT
  go_wp2_with fail
  go_returns
  obtain ⟨r1, r2, r3⟩ := unhide HF
  have hs2 := unhide HS2
  have hB := unhide HBL
  have hpl := unhide HPL
  have hb3 := unhide HB3
  have hkp : Kp (fun j => j = p) (W3.alloc (.cells #[(Value.slice (some ⟨g3, 0, none⟩) s.size c3)] 52)) w5 := r3.more (fun j h => h.elim id (fun h => by cases h))
  refine ⟨rfl, W3.heap.size, (Value.slice (some ⟨g3, 0, none⟩) s.size c3), vn, ⟨?_, ?_⟩, r1, r2, hb3.size, (Kp.of (unhide HB4)).andThen hkp (fun _ _ h => h)⟩
  · exact blk_kp hkp (alloc_new _ _) (by have := hb3.size; omega)
  · have hm := rowM_below (unhide HROW) ((Below.refl _ _).alloc (Nat.le_refl _) (.cells #[(Value.slice (some ⟨g3, 0, none⟩) s.size c3)] 52))
    have hm5 := rowM_of (w' := w5) hm (fun k o hk ho => blk_kp hkp ho (by
      have hk2 : g3 = k := Option.some.inj hk
      have := unhide HW2
      omega))
    obtain ⟨h0, g, cap, cur, fz, e1, h1, h2⟩ := hm5
    exact ⟨h0, g, cap, cur, fz, e1, by have := unhide HW2; omega, h2⟩
end Go.Proofs.YtllhajjceecjdaaDoor
