/- xvalue.Call at a function's name, by that function's own contract. (Written by mkvacall.py.) -/
import Derived.Test.YtppkilblkobkhaaGreatDoorVaVal
namespace Go.Proofs.YtppkilblkobkhaaGreatDoor
open Go.RowKit
theorem new_block (w : World) (o : Obj) : (w.alloc o).heap[w.heap.size]? = some o := by
  unfold World.alloc
  exact Array.getElem?_push_size
theorem block_kept {w w' : World} {k : Nat} {o : Obj} (h : w.heap[k]? = some o) (hb : Below w.heap.size w w') : w'.heap[k]? = some o := by
  rw [hb.block k (Array.getElem?_eq_some_iff.1 h).1]
  exact h
theorem blk_c {w : World} {p : Nat} {c : Array Value} {t : TypeId} {z : Nat × Nat} (h : w.heap[p]? = some (.cells c t z)) (i : Nat) : w.cell? ⟨p, i, none⟩ = c[i]? := by simp [World.cell?, h]
theorem blk_o {w : World} {p : Nat} {c : Array Value} {t : TypeId} (h : w.heap[p]? = some (.cells c t (0, 0))) (i : Nat) : w.frozen? ⟨p, i, none⟩ = false := by simp [World.frozen?, h]
set_option maxRecDepth 100000 in
set_option maxHeartbeats 2000000 in
theorem call_translate (w : World) (g o cap : Nat) (vs : List PV) (hv : ValsAt w g o vs) (K nk nv : Int) (s : ByteArray) (t : Bool) (hs : s.size ≤ 32768)
    (HF : ∀ W, ValsAt W g o vs → Calls Tryz.prog 45 #[.agg #[.pointer none, .slice (some ⟨g, o, none⟩) 3 cap]] W fun e w' => e = .returned (.agg #[.int .i64 K, .slice none 0 0, .int .i64 nk, .int .i64 nv, .string s, .bool t, .int .i64 0]) ∧ Below W.heap.size W w') :
    Calls Tryz.prog 13 #[.pointer none, .string { data := #[116, 114, 97, 110, 115, 108, 97, 116, 101] }, .slice (some ⟨g, o, none⟩) 3 cap] w fun e w' => e = .returned (.tuple #[.agg #[.int .i64 K, .slice none 0 0, .int .i64 nk, .int .i64 nv, .string s, .bool t], .int .i64 0]) ∧ Below w.heap.size w w' := by
  have HL := hide (fun W b (h : Owns W b 26) => look_translate h)
  have HFF := hide (fun W (hb : Below w.heap.size w W) => HF W (hv.on hb))
  have hlen : ¬ (32768 : Int) < (s.size : Int) := by omega
  obtain ⟨W0, hW0⟩ : ∃ W0, w.alloc (.cells #[.int .i64 0, .slice none 0 0, .int .i64 0, .int .i64 0, .string ⟨#[]⟩, .bool false] 34) = W0 := ⟨_, rfl⟩
  have hb0 : Below w.heap.size w W0 := by rw [← hW0]; exact (Below.refl _ _).alloc (Nat.le_refl _) _
  have hz0 : W0.heap[w.heap.size]? = some (.cells #[.int .i64 0, .slice none 0 0, .int .i64 0, .int .i64 0, .string ⟨#[]⟩, .bool false] 34 (0, 0)) := by rw [← hW0]; exact new_block w _
  have hlw : w.heap.size < W0.heap.size := (Array.getElem?_eq_some_iff.1 hz0).1
  have HW := hide hlw
  generalize hbx : w.heap.size = bx at hz0 hlw hW0 HW
  have HBX := hide hbx
  have HB0 := hide hb0
  have HZ0 := hide hz0
  clear HF hv hs hz0 hb0 hbx hlw
  go_enter Tryz.func13, Tryz.ntmps13
  go_wp2_with fail
  clear hW0
  refine (fns_any W0).mono ?_
  rintro e w1 ⟨rfl, hO, hb1⟩
  have hl := unhide HL _ _ hO
  have HB1 := hide hb1
  clear hO hb1
  go_wp2_with fail
  have hbF : Below W0.heap.size W0 (w1.alloc (.cells #[.int .i64 3, .int .i64 3, .bool false, .bool false, .func (.func 45) #[] #[]] 57)) := (unhide HB1).alloc (unhide HB1).size _
  refine (unhide HFF _ (Below.then (unhide HB0) hbF)).mono ?_
  rintro e w2 ⟨rfl, hb2⟩
  have hb02 := Below.then hbF hb2
  obtain ⟨W3, hW3⟩ : ∃ W3, w2.alloc (.cells #[.int .i64 K, .slice none 0 0, .int .i64 nk, .int .i64 nv, .string s, .bool t, .int .i64 0] 62) = W3 := ⟨_, rfl⟩
  have hb23 : Below w2.heap.size w2 W3 := by rw [← hW3]; exact (Below.refl _ _).alloc (Nat.le_refl _) _
  have hz2 := block_kept (unhide HZ0) (Below.then hb02 hb23)
  have hy2 : W3.heap[w2.heap.size]? = some (.cells #[.int .i64 K, .slice none 0 0, .int .i64 nk, .int .i64 nv, .string s, .bool t, .int .i64 0] 62 (0, 0)) := by rw [← hW3]; exact new_block w2 _
  have r0 : W3.cell? ⟨w.heap.size, 0, none⟩ = some (.int .i64 0) := by rw [unhide HBX]; exact blk_c hz2 0
  have t0 : W3.frozen? ⟨w.heap.size, 0, none⟩ = false := by rw [unhide HBX]; exact blk_o hz2 0
  have r1 : W3.cell? ⟨w.heap.size, 1, none⟩ = some (.slice none 0 0) := by rw [unhide HBX]; exact blk_c hz2 1
  have t1 : W3.frozen? ⟨w.heap.size, 1, none⟩ = false := by rw [unhide HBX]; exact blk_o hz2 1
  have r2 : W3.cell? ⟨w.heap.size, 2, none⟩ = some (.int .i64 0) := by rw [unhide HBX]; exact blk_c hz2 2
  have t2 : W3.frozen? ⟨w.heap.size, 2, none⟩ = false := by rw [unhide HBX]; exact blk_o hz2 2
  have r3 : W3.cell? ⟨w.heap.size, 3, none⟩ = some (.int .i64 0) := by rw [unhide HBX]; exact blk_c hz2 3
  have t3 : W3.frozen? ⟨w.heap.size, 3, none⟩ = false := by rw [unhide HBX]; exact blk_o hz2 3
  have r4 : W3.cell? ⟨w.heap.size, 4, none⟩ = some (.string ⟨#[]⟩) := by rw [unhide HBX]; exact blk_c hz2 4
  have t4 : W3.frozen? ⟨w.heap.size, 4, none⟩ = false := by rw [unhide HBX]; exact blk_o hz2 4
  have r5 : W3.cell? ⟨w.heap.size, 5, none⟩ = some (.bool false) := by rw [unhide HBX]; exact blk_c hz2 5
  have t5 : W3.frozen? ⟨w.heap.size, 5, none⟩ = false := by rw [unhide HBX]; exact blk_o hz2 5
  have y0 : W3.cell? ⟨w2.heap.size, 0, none⟩ = some (.int .i64 K) := blk_c hy2 0
  have y1 : W3.cell? ⟨w2.heap.size, 1, none⟩ = some (.slice none 0 0) := blk_c hy2 1
  have y2 : W3.cell? ⟨w2.heap.size, 2, none⟩ = some (.int .i64 nk) := blk_c hy2 2
  have y3 : W3.cell? ⟨w2.heap.size, 3, none⟩ = some (.int .i64 nv) := blk_c hy2 3
  have y4 : W3.cell? ⟨w2.heap.size, 4, none⟩ = some (.string s) := blk_c hy2 4
  have y5 : W3.cell? ⟨w2.heap.size, 5, none⟩ = some (.bool t) := blk_c hy2 5
  have y6 : W3.cell? ⟨w2.heap.size, 6, none⟩ = some (.int .i64 0) := blk_c hy2 6
  have u0 : W3.frozen? ⟨w2.heap.size, 0, none⟩ = false := blk_o hy2 0
  have u1 : W3.frozen? ⟨w2.heap.size, 1, none⟩ = false := blk_o hy2 1
  have u2 : W3.frozen? ⟨w2.heap.size, 2, none⟩ = false := blk_o hy2 2
  have u3 : W3.frozen? ⟨w2.heap.size, 3, none⟩ = false := blk_o hy2 3
  have u4 : W3.frozen? ⟨w2.heap.size, 4, none⟩ = false := blk_o hy2 4
  have u5 : W3.frozen? ⟨w2.heap.size, 5, none⟩ = false := blk_o hy2 5
  have u6 : W3.frozen? ⟨w2.heap.size, 6, none⟩ = false := blk_o hy2 6
  have HLT : Hid (w.heap.size < w2.heap.size) := hide (by have := hb02.size; have := unhide HW; have := unhide HBX; omega)
  have hne2 : w.heap.size ≠ w2.heap.size := by have := hb02.size; have := unhide HW; have := unhide HBX; omega
  clear hz2 hy2
  have HB2 := hide (Below.then (unhide HB0) (Below.then hb02 hb23))
  clear hb02 hb2 hbF HB1 HB0 hb23 hl
  go_wp2_with fail
  refine bodyPost_ret (v := .tuple #[.agg #[.int .i64 K, .slice none 0 0, .int .i64 nk, .int .i64 nv, .string s, .bool t], .int .i64 0]) (by simp [results, Tryz.results13, go_sem, *]) rfl ?_
  have hB2 := unhide HB2
  have hlt2 := unhide HLT
  refine ⟨rfl, ?_⟩
  rw [← unhide HBX]
  (repeat first | refine Below.setCell ?_ (by simp <;> omega) _ | refine Below.alloc ?_ (by simp <;> omega) _ | refine Below.drew ?_ | exact hB2)
set_option maxRecDepth 100000 in
set_option maxHeartbeats 2000000 in
theorem call_substring (w : World) (g o cap : Nat) (vs : List PV) (hv : ValsAt w g o vs) (K nk nv : Int) (s : ByteArray) (t : Bool) (hs : s.size ≤ 32768)
    (HF : ∀ W, ValsAt W g o vs → Calls Tryz.prog 46 #[.agg #[.pointer none, .slice (some ⟨g, o, none⟩) 3 cap]] W fun e w' => e = .returned (.agg #[.int .i64 K, .slice none 0 0, .int .i64 nk, .int .i64 nv, .string s, .bool t, .int .i64 0]) ∧ Below W.heap.size W w') :
    Calls Tryz.prog 13 #[.pointer none, .string { data := #[115, 117, 98, 115, 116, 114, 105, 110, 103] }, .slice (some ⟨g, o, none⟩) 3 cap] w fun e w' => e = .returned (.tuple #[.agg #[.int .i64 K, .slice none 0 0, .int .i64 nk, .int .i64 nv, .string s, .bool t], .int .i64 0]) ∧ Below w.heap.size w w' := by
  have HL := hide (fun W b (h : Owns W b 26) => look_substring h)
  have HFF := hide (fun W (hb : Below w.heap.size w W) => HF W (hv.on hb))
  have hlen : ¬ (32768 : Int) < (s.size : Int) := by omega
  obtain ⟨W0, hW0⟩ : ∃ W0, w.alloc (.cells #[.int .i64 0, .slice none 0 0, .int .i64 0, .int .i64 0, .string ⟨#[]⟩, .bool false] 34) = W0 := ⟨_, rfl⟩
  have hb0 : Below w.heap.size w W0 := by rw [← hW0]; exact (Below.refl _ _).alloc (Nat.le_refl _) _
  have hz0 : W0.heap[w.heap.size]? = some (.cells #[.int .i64 0, .slice none 0 0, .int .i64 0, .int .i64 0, .string ⟨#[]⟩, .bool false] 34 (0, 0)) := by rw [← hW0]; exact new_block w _
  have hlw : w.heap.size < W0.heap.size := (Array.getElem?_eq_some_iff.1 hz0).1
  have HW := hide hlw
  generalize hbx : w.heap.size = bx at hz0 hlw hW0 HW
  have HBX := hide hbx
  have HB0 := hide hb0
  have HZ0 := hide hz0
  clear HF hv hs hz0 hb0 hbx hlw
  go_enter Tryz.func13, Tryz.ntmps13
  go_wp2_with fail
  clear hW0
  refine (fns_any W0).mono ?_
  rintro e w1 ⟨rfl, hO, hb1⟩
  have hl := unhide HL _ _ hO
  have HB1 := hide hb1
  clear hO hb1
  go_wp2_with fail
  have hbF : Below W0.heap.size W0 (w1.alloc (.cells #[.int .i64 2, .int .i64 3, .bool false, .bool false, .func (.func 46) #[] #[]] 57)) := (unhide HB1).alloc (unhide HB1).size _
  refine (unhide HFF _ (Below.then (unhide HB0) hbF)).mono ?_
  rintro e w2 ⟨rfl, hb2⟩
  have hb02 := Below.then hbF hb2
  obtain ⟨W3, hW3⟩ : ∃ W3, w2.alloc (.cells #[.int .i64 K, .slice none 0 0, .int .i64 nk, .int .i64 nv, .string s, .bool t, .int .i64 0] 62) = W3 := ⟨_, rfl⟩
  have hb23 : Below w2.heap.size w2 W3 := by rw [← hW3]; exact (Below.refl _ _).alloc (Nat.le_refl _) _
  have hz2 := block_kept (unhide HZ0) (Below.then hb02 hb23)
  have hy2 : W3.heap[w2.heap.size]? = some (.cells #[.int .i64 K, .slice none 0 0, .int .i64 nk, .int .i64 nv, .string s, .bool t, .int .i64 0] 62 (0, 0)) := by rw [← hW3]; exact new_block w2 _
  have r0 : W3.cell? ⟨w.heap.size, 0, none⟩ = some (.int .i64 0) := by rw [unhide HBX]; exact blk_c hz2 0
  have t0 : W3.frozen? ⟨w.heap.size, 0, none⟩ = false := by rw [unhide HBX]; exact blk_o hz2 0
  have r1 : W3.cell? ⟨w.heap.size, 1, none⟩ = some (.slice none 0 0) := by rw [unhide HBX]; exact blk_c hz2 1
  have t1 : W3.frozen? ⟨w.heap.size, 1, none⟩ = false := by rw [unhide HBX]; exact blk_o hz2 1
  have r2 : W3.cell? ⟨w.heap.size, 2, none⟩ = some (.int .i64 0) := by rw [unhide HBX]; exact blk_c hz2 2
  have t2 : W3.frozen? ⟨w.heap.size, 2, none⟩ = false := by rw [unhide HBX]; exact blk_o hz2 2
  have r3 : W3.cell? ⟨w.heap.size, 3, none⟩ = some (.int .i64 0) := by rw [unhide HBX]; exact blk_c hz2 3
  have t3 : W3.frozen? ⟨w.heap.size, 3, none⟩ = false := by rw [unhide HBX]; exact blk_o hz2 3
  have r4 : W3.cell? ⟨w.heap.size, 4, none⟩ = some (.string ⟨#[]⟩) := by rw [unhide HBX]; exact blk_c hz2 4
  have t4 : W3.frozen? ⟨w.heap.size, 4, none⟩ = false := by rw [unhide HBX]; exact blk_o hz2 4
  have r5 : W3.cell? ⟨w.heap.size, 5, none⟩ = some (.bool false) := by rw [unhide HBX]; exact blk_c hz2 5
  have t5 : W3.frozen? ⟨w.heap.size, 5, none⟩ = false := by rw [unhide HBX]; exact blk_o hz2 5
  have y0 : W3.cell? ⟨w2.heap.size, 0, none⟩ = some (.int .i64 K) := blk_c hy2 0
  have y1 : W3.cell? ⟨w2.heap.size, 1, none⟩ = some (.slice none 0 0) := blk_c hy2 1
  have y2 : W3.cell? ⟨w2.heap.size, 2, none⟩ = some (.int .i64 nk) := blk_c hy2 2
  have y3 : W3.cell? ⟨w2.heap.size, 3, none⟩ = some (.int .i64 nv) := blk_c hy2 3
  have y4 : W3.cell? ⟨w2.heap.size, 4, none⟩ = some (.string s) := blk_c hy2 4
  have y5 : W3.cell? ⟨w2.heap.size, 5, none⟩ = some (.bool t) := blk_c hy2 5
  have y6 : W3.cell? ⟨w2.heap.size, 6, none⟩ = some (.int .i64 0) := blk_c hy2 6
  have u0 : W3.frozen? ⟨w2.heap.size, 0, none⟩ = false := blk_o hy2 0
  have u1 : W3.frozen? ⟨w2.heap.size, 1, none⟩ = false := blk_o hy2 1
  have u2 : W3.frozen? ⟨w2.heap.size, 2, none⟩ = false := blk_o hy2 2
  have u3 : W3.frozen? ⟨w2.heap.size, 3, none⟩ = false := blk_o hy2 3
  have u4 : W3.frozen? ⟨w2.heap.size, 4, none⟩ = false := blk_o hy2 4
  have u5 : W3.frozen? ⟨w2.heap.size, 5, none⟩ = false := blk_o hy2 5
  have u6 : W3.frozen? ⟨w2.heap.size, 6, none⟩ = false := blk_o hy2 6
  have HLT : Hid (w.heap.size < w2.heap.size) := hide (by have := hb02.size; have := unhide HW; have := unhide HBX; omega)
  have hne2 : w.heap.size ≠ w2.heap.size := by have := hb02.size; have := unhide HW; have := unhide HBX; omega
  clear hz2 hy2
  have HB2 := hide (Below.then (unhide HB0) (Below.then hb02 hb23))
  clear hb02 hb2 hbF HB1 HB0 hb23 hl
  go_wp2_with fail
  refine bodyPost_ret (v := .tuple #[.agg #[.int .i64 K, .slice none 0 0, .int .i64 nk, .int .i64 nv, .string s, .bool t], .int .i64 0]) (by simp [results, Tryz.results13, go_sem, *]) rfl ?_
  have hB2 := unhide HB2
  have hlt2 := unhide HLT
  refine ⟨rfl, ?_⟩
  rw [← unhide HBX]
  (repeat first | refine Below.setCell ?_ (by simp <;> omega) _ | refine Below.alloc ?_ (by simp <;> omega) _ | refine Below.drew ?_ | exact hB2)
end Go.Proofs.YtppkilblkobkhaaGreatDoor
