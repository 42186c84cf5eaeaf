/- concat, starts-with, contains, substring-before, substring-after, string-length of texts. -/
import Derived.Test.YtppkilblkobkhaaGreatDoorVaLive
import Derived.Test.YtppkilblkobkhaaGreatDoorClsTail
namespace Go.Proofs.YtppkilblkobkhaaGreatDoor
open Go.RowKit
/-- The answer that is a text, a truth, a number. -/
abbrev txtA (s : ByteArray) : Value := .agg #[.int .i64 2, .slice none 0 0, .int .i64 0, .int .i64 0, .string s, .bool false, .int .i64 0]
abbrev truA (b : Bool) : Value := .agg #[.int .i64 3, .slice none 0 0, .int .i64 0, .int .i64 0, .string ⟨#[]⟩, .bool b, .int .i64 0]
abbrev numA (k v : Int) : Value := .agg #[.int .i64 1, .slice none 0 0, .int .i64 k, .int .i64 v, .string ⟨#[]⟩, .bool false, .int .i64 0]
set_option maxRecDepth 100000 in
theorem aTruth_any (b : Bool) (w : World) : Calls Tryz.prog 64 #[.bool b] w fun e w' => e = .returned (truA b) ∧ Below w.heap.size w w' := by
  go_enter Tryz.func64, Tryz.ntmps64
  go_wp2
  go_returns
  exact ⟨rfl, by (repeat first | exact Below.refl _ _ | assumption | refine Below.drew ?_ | refine Below.alloc ?_ (by simp <;> omega) _ | refine Below.setCell ?_ (by simp <;> omega) _)⟩
set_option maxRecDepth 100000 in
theorem aNumber_any (k v : Int) (w : World) : Calls Tryz.prog 66 #[.agg #[.int .i64 k, .int .i64 v]] w fun e w' => e = .returned (numA k v) ∧ Below w.heap.size w w' := by
  go_enter Tryz.func66, Tryz.ntmps66
  go_wp2
  go_returns
  exact ⟨rfl, by (repeat first | exact Below.refl _ _ | assumption | refine Below.drew ?_ | refine Below.alloc ?_ (by simp <;> omega) _ | refine Below.setCell ?_ (by simp <;> omega) _)⟩
/-- Texts that are arguments, at every world behind. -/
theorem texts_at {w : World} {g o cap n : Nat} {l : List PV} (hV : ValsAt w g o l) (hl : l.length = n) : ∀ W, Below w.heap.size w W → ∀ (i : Nat) (z : ByteArray), l[i]? = some (txtP z) →
    Calls Tryz.prog 75 #[.agg #[.pointer none, .slice (some ⟨g, o, none⟩) n cap], .int .i64 (i : Nat)] W fun e w' => e = .returned (.string z) ∧ Below W.heap.size W w' :=
  fun W hb i z hi => text_at W g o n cap i z l (hV.on hb) hi hl
/-- The first or the second. -/
def pickB (s u : ByteArray) (k : Int) : ByteArray := if k = 0 then s else u
theorem pick0 (s u : ByteArray) : pickB s u 0 = s := rfl
theorem pick1 (s u : ByteArray) : pickB s u 1 = u := rfl
theorem two_at {w : World} {g o cap : Nat} {s u : ByteArray} (hV : ValsAt w g o [txtP s, txtP u]) : ∀ W, Below w.heap.size w W → ∀ k : Int, k = 0 ∨ k = 1 →
    Calls Tryz.prog 75 #[.agg #[.pointer none, .slice (some ⟨g, o, none⟩) 2 cap], .int .i64 k] W fun e w' => e = .returned (.string (pickB s u k)) ∧ Below W.heap.size W w' := by
  intro W hb k hk
  rcases hk with rfl | rfl
  · exact texts_at (cap := cap) hV rfl W hb 0 s rfl
  · exact texts_at (cap := cap) hV rfl W hb 1 u rfl
theorem one_at {w : World} {g o cap : Nat} {s : ByteArray} (hV : ValsAt w g o [txtP s]) : ∀ W, Below w.heap.size w W →
    Calls Tryz.prog 75 #[.agg #[.pointer none, .slice (some ⟨g, o, none⟩) 1 cap], .int .i64 0] W fun e w' => e = .returned (.string s) ∧ Below W.heap.size W w' :=
  fun W hb => texts_at (cap := cap) hV rfl W hb 0 s rfl
set_option maxHeartbeats 1000000 in
theorem int_small (n : Nat) (w : World) (hn : n ≤ 1048576) :
    Calls Tryz.prog 71 #[.int .i64 (n : Nat)] w fun e w' => e = .returned (.agg #[.int .i64 0, .int .i64 ((n : Int) * 1000000)]) ∧ Below w.heap.size w w' := by
  have h1 : ¬ (n : Int) < -1000000000000 := by omega
  have h2 : ¬ (1000000000000 : Int) < (n : Int) := by omega
  have h3 : wrap64 ((n : Int) * 1000000) = (n : Int) * 1000000 := by unfold wrap64; omega
  go_enter Tryz.func71, Tryz.ntmps71
  go_wp2
  refine bodyPost_ret (v := .agg #[.int .i64 0, .int .i64 ((n : Int) * 1000000)]) (by simp [results, Tryz.results71, go_sem]) rfl ⟨rfl, ?_⟩
  (repeat first | exact Below.refl _ _ | assumption | refine Below.drew ?_ | refine Below.alloc ?_ (by simp <;> omega) _ | refine Below.setCell ?_ (by simp <;> omega) _)
set_option maxRecDepth 100000 in
set_option maxHeartbeats 4000000 in
theorem startsWith_two (g o cap : Nat) (s u : ByteArray) (r : Bool) (w : World) (hV : ValsAt w g o [txtP s, txtP u]) (hr : Lib.hasPrefix s.data.toList u.data.toList = r) :
    Calls Tryz.prog 39 #[.agg #[.pointer none, .slice (some ⟨g, o, none⟩) 2 cap]] w fun e W' => e = .returned (.agg #[.int .i64 3, .slice none 0 0, .int .i64 0, .int .i64 0, .string ⟨#[]⟩, .bool r, .int .i64 0]) ∧ Below w.heap.size w W' := by
  have HT := hide (two_at (cap := cap) hV)
  clear hV
  have HP : Hid (∀ w, Calls Tryz.prog 78 #[.string s, .string u] w fun e w' => e = .returned (.bool r) ∧ Below w.heap.size w w') := hide fun w => by
    have h := Tryz.strings_HasPrefix s u w
    rw [hr] at h
    exact h.mono fun e w' hh => ⟨hh.1, by rw [hh.2]; exact Below.refl _ _⟩
  have HA := hide aTruth_any
  clear hr
  obtain ⟨W0, hW0⟩ : ∃ W0, (w.alloc (.cells #[.pointer none, .slice (some ⟨g, o, none⟩) 2 cap] 64)).alloc (.cells #[.int .i64 0, .slice none 0 0, .int .i64 0, .int .i64 0, .string ⟨#[]⟩, .bool false, .int .i64 0] 62) = W0 := ⟨_, rfl⟩
  have hb0 : Below w.heap.size w W0 := by rw [← hW0]; (repeat first | exact Below.refl _ _ | refine Below.alloc ?_ (by simp <;> omega) _)
  have p0 : W0.cell? ⟨w.heap.size, 0, none⟩ = some (.pointer none) := by rw [← hW0]; simp [go_sem]
  have p1 : W0.cell? ⟨w.heap.size, 1, none⟩ = some (.slice (some ⟨g, o, none⟩) 2 cap) := by rw [← hW0]; simp [go_sem]
  have z0 : W0.heap[w.heap.size + 1]? = some (.cells #[.int .i64 0, .slice none 0 0, .int .i64 0, .int .i64 0, .string ⟨#[]⟩, .bool false, .int .i64 0] 62 (0, 0)) := by rw [← hW0]; have h := new_block (w.alloc (.cells #[.pointer none, .slice (some ⟨g, o, none⟩) 2 cap] 64)) (.cells #[.int .i64 0, .slice none 0 0, .int .i64 0, .int .i64 0, .string ⟨#[]⟩, .bool false, .int .i64 0] 62); rw [World.size_alloc] at h; exact h
  have HX : Hid (ClsV W0 W0.drew) := hide ⟨(Below.refl _ _).drew⟩
  have HCE : Hid (∀ w', ClsV W0 w' → w'.cell? ⟨w.heap.size, 0, none⟩ = some (.pointer none) ∧ w'.cell? ⟨w.heap.size, 1, none⟩ = some (.slice (some ⟨g, o, none⟩) 2 cap)) := hide fun w' hC => ⟨kept_cell hC.bel p0, kept_cell hC.bel p1⟩
  have HZ := hide z0
  have HB0 := hide hb0
  clear z0 hb0 p0 p1
  go_enter Tryz.func39, Tryz.ntmps39
  go_wp2_with fail
  clear hW0
  refine wp_region_cls_tail 6 (ClsV W0) (by kernel_rfl) (by kernel_rfl) (by kernel_rfl) (unhide HX) ?_
  simp only [List.take_succ_cons, List.take_zero, List.drop_succ_cons, List.drop_zero]
  repeat
    (first
      | go_big_quiet_skip
      | (go_big_quiet_want
         go_big_quiet_op
         first
           | go_big_quiet_on
           | (apply Exists.intro
              refine ⟨fun w' hC => ?_, ?_⟩
              · (first
                  | (go_at_call 75; refine (unhide HT _ (Below.then (unhide HB0) hC.bel) _ (by first | exact .inl rfl | exact .inr rfl)).mono ?_; rintro e w5 ⟨he, hb5⟩; (first | rw [pick0] at he | rw [pick1] at he); subst he; exact ⟨rfl, ⟨Below.then hC.bel hb5⟩⟩)
                  | (go_at_call 78; refine (unhide HP _).mono ?_; rintro e w5 ⟨rfl, hb5⟩; exact ⟨rfl, ⟨Below.then hC.bel hb5⟩⟩)
                  | (go_at_call 64; refine (unhide HA _ _).mono ?_; rintro e w5 ⟨rfl, hb5⟩; exact ⟨rfl, ⟨Below.then hC.bel hb5⟩⟩)
                  | (obtain ⟨k0, k1⟩ := unhide HCE _ hC; go_simp; first | done | rfl))
              go_big_quiet_on)))
  refine wpQuiet_nil ?_
  intro w8 hC8
  have hz8 := block_kept (unhide HZ) hC8.bel
  have hB8 := Below.then (unhide HB0) hC8.bel
  obtain ⟨W9, hW9, hz9, _, hb9⟩ := put7 hz8 (.int .i64 3) (.slice none 0 0) (.int .i64 0) (.int .i64 0) (.string ⟨#[]⟩) (.bool r) (.int .i64 0)
  have y0 := blk_c hz8 0
  have y1 := blk_c hz8 1
  have y2 := blk_c hz8 2
  have y3 := blk_c hz8 3
  have y4 := blk_c hz8 4
  have y5 := blk_c hz8 5
  have y6 := blk_c hz8 6
  have hfr := blk_o hz8
  have HZ9 := hide hz9
  have HB9 := hide (hB8.trans (hb9.mono (by omega)))
  clear hz9 hb9 hz8 hB8 HZ HB0 HX HCE HT hC8
  go_wp2
  have hz9 := unhide HZ9
  have d0 := blk_c hz9 0
  have d1 := blk_c hz9 1
  have d2 := blk_c hz9 2
  have d3 := blk_c hz9 3
  have d4 := blk_c hz9 4
  have d5 := blk_c hz9 5
  have d6 := blk_c hz9 6
  refine bodyPost_ret (v := .agg #[.int .i64 3, .slice none 0 0, .int .i64 0, .int .i64 0, .string ⟨#[]⟩, .bool r, .int .i64 0]) (by simp [results, Tryz.results39, go_sem, d0, d1, d2, d3, d4, d5, d6]) rfl ⟨rfl, unhide HB9⟩
set_option maxRecDepth 100000 in
set_option maxHeartbeats 4000000 in
theorem stringLength_one (g o cap : Nat) (s : ByteArray) (w : World) (hV : ValsAt w g o [txtP s]) (hs : s.size ≤ 1048576) :
    Calls Tryz.prog 43 #[.agg #[.pointer none, .slice (some ⟨g, o, none⟩) 1 cap]] w fun e W' => e = .returned (numA 0 ((countN s : Int) * 1000000)) ∧ Below w.heap.size w W' := by
  have HT := hide (one_at (cap := cap) hV)
  have HP := hide (fun w => count_any s w (by omega))
  have HI := hide (fun w => int_small (countN s) w (by have := countN_le s; omega))
  have HA := hide aNumber_any
  clear hV
  generalize (countN s : Int) = c at *
  obtain ⟨W0, hW0⟩ : ∃ W0, (w.alloc (.cells #[.pointer none, .slice (some ⟨g, o, none⟩) 1 cap] 64)).alloc (.cells #[.int .i64 0, .slice none 0 0, .int .i64 0, .int .i64 0, .string ⟨#[]⟩, .bool false, .int .i64 0] 62) = W0 := ⟨_, rfl⟩
  have hb0 : Below w.heap.size w W0 := by rw [← hW0]; (repeat first | exact Below.refl _ _ | refine Below.alloc ?_ (by simp <;> omega) _)
  have p0 : W0.cell? ⟨w.heap.size, 0, none⟩ = some (.pointer none) := by rw [← hW0]; simp [go_sem]
  have p1 : W0.cell? ⟨w.heap.size, 1, none⟩ = some (.slice (some ⟨g, o, none⟩) 1 cap) := by rw [← hW0]; simp [go_sem]
  have z0 : W0.heap[w.heap.size + 1]? = some (.cells #[.int .i64 0, .slice none 0 0, .int .i64 0, .int .i64 0, .string ⟨#[]⟩, .bool false, .int .i64 0] 62 (0, 0)) := by rw [← hW0]; have h := new_block (w.alloc (.cells #[.pointer none, .slice (some ⟨g, o, none⟩) 1 cap] 64)) (.cells #[.int .i64 0, .slice none 0 0, .int .i64 0, .int .i64 0, .string ⟨#[]⟩, .bool false, .int .i64 0] 62); rw [World.size_alloc] at h; exact h
  have HZ := hide z0
  have HB0 := hide hb0
  clear z0 hb0
  go_enter Tryz.func43, Tryz.ntmps43
  go_wp2_with fail
  clear hW0
  refine (unhide HT _ (unhide HB0)).mono ?_
  rintro e w1 ⟨rfl, hb1⟩
  go_wp2_with fail
  refine (unhide HP _).mono ?_
  rintro e w2 ⟨rfl, hb2⟩
  go_wp2_with fail
  refine (unhide HI _).mono ?_
  rintro e w3 ⟨rfl, hb3⟩
  go_wp2_with fail
  refine (unhide HA _ _ _).mono ?_
  rintro e w4 ⟨rfl, hb4⟩
  have hb04 := Below.then hb1 (Below.then hb2 (Below.then hb3 hb4))
  have hz8 := block_kept (unhide HZ) hb04
  have hB8 := Below.then (unhide HB0) hb04
  obtain ⟨W9, hW9, hz9, _, hb9⟩ := put7 hz8 (.int .i64 1) (.slice none 0 0) (.int .i64 0) (.int .i64 (c * 1000000)) (.string ⟨#[]⟩) (.bool false) (.int .i64 0)
  have y0 := blk_c hz8 0
  have y1 := blk_c hz8 1
  have y2 := blk_c hz8 2
  have y3 := blk_c hz8 3
  have y4 := blk_c hz8 4
  have y5 := blk_c hz8 5
  have y6 := blk_c hz8 6
  have hfr := blk_o hz8
  have HZ9 := hide hz9
  have HB9 := hide (hB8.trans (hb9.mono (by omega)))
  clear hz9 hb9 hz8 hB8 HZ HB0 HT HP HI HA hb1 hb2 hb3 hb4 hb04 p0 p1
  go_wp2
  have hz9 := unhide HZ9
  have d0 := blk_c hz9 0
  have d1 := blk_c hz9 1
  have d2 := blk_c hz9 2
  have d3 := blk_c hz9 3
  have d4 := blk_c hz9 4
  have d5 := blk_c hz9 5
  have d6 := blk_c hz9 6
  refine bodyPost_ret (v := numA 0 (c * 1000000)) (by simp [results, Tryz.results43, go_sem, d0, d1, d2, d3, d4, d5, d6]) rfl ⟨rfl, unhide HB9⟩
def catL (s u : List UInt8) : Nat → List UInt8
  | 0 => []
  | 1 => s
  | _ => s ++ u
def pickL (s u : List UInt8) (k : Nat) : List UInt8 := if k = 0 then s else u
theorem catL_step (s u : List UInt8) (k : Nat) (h : k < 2) : catL s u k ++ pickL s u k = catL s u (k + 1) := by
  rcases (show k = 0 ∨ k = 1 by omega) with rfl | rfl <;> simp [catL, pickL]
theorem catL_le (s u : List UInt8) (k : Nat) : (catL s u k).length ≤ s.length + u.length := by
  unfold catL
  split <;> simp
set_option maxRecDepth 100000 in
set_option maxHeartbeats 4000000 in
theorem concat_two (g o cap : Nat) (s u : List UInt8) (w : World) (hV : ValsAt w g o [txtP (bsT s), txtP (bsT u)]) (hs : s.length ≤ 1048576) (hu : u.length ≤ 1048576) :
    Calls Tryz.prog 38 #[.agg #[.pointer none, .slice (some ⟨g, o, none⟩) 2 cap]] w fun e W' => e = .returned (txtA (bsT (s ++ u))) ∧ Below w.heap.size w W' := by
  have HT : Hid (∀ W, Below w.heap.size w W → ∀ k : Nat, k < 2 → Calls Tryz.prog 75 #[.agg #[.pointer none, .slice (some ⟨g, o, none⟩) 2 cap], .int .i64 (k : Nat)] W fun e w' => e = .returned (.string (bsT (pickL s u k))) ∧ Below W.heap.size W w') := hide fun W hb k hk => by
    rcases (show k = 0 ∨ k = 1 by omega) with rfl | rfl
    · exact texts_at (cap := cap) hV rfl W hb 0 _ rfl
    · exact texts_at (cap := cap) hV rfl W hb 1 _ rfl
  clear hV
  have HA := hide aText_any
  have k1 : ∀ (x : World) (o : Obj), Below x.heap.size x (x.alloc o) := fun x o => (Below.refl _ _).alloc (Nat.le_refl _) _
  obtain ⟨w1, h1⟩ : ∃ w1, w.alloc (.cells #[.pointer none, .slice (some ⟨g, o, none⟩) 2 cap] 64) = w1 := ⟨_, rfl⟩
  obtain ⟨w2, h2⟩ : ∃ w2, w1.alloc (.cells #[.int .i64 0, .slice none 0 0, .int .i64 0, .int .i64 0, .string ⟨#[]⟩, .bool false, .int .i64 0] 62) = w2 := ⟨_, rfl⟩
  obtain ⟨W0, h3⟩ : ∃ W0, w2.alloc (.cells #[.pointer none, .slice none 0 0] 98) = W0 := ⟨_, rfl⟩
  have e1 : w1.heap.size = w.heap.size + 1 := by rw [← h1]; exact World.size_alloc _ _
  have e2 : w2.heap.size = w.heap.size + 1 + 1 := by rw [← h2, World.size_alloc, e1]
  have e3 : W0.heap.size = w.heap.size + 1 + 1 + 1 := by rw [← h3, World.size_alloc, e2]
  have b1 : Below w.heap.size w w1 := by rw [← h1]; exact k1 _ _
  have b2 : Below w1.heap.size w1 w2 := by rw [← h2]; exact k1 _ _
  have b3 : Below w2.heap.size w2 W0 := by rw [← h3]; exact k1 _ _
  have z1 : w1.heap[w.heap.size]? = some (.cells #[.pointer none, .slice (some ⟨g, o, none⟩) 2 cap] 64 (0, 0)) := by rw [← h1]; exact new_block _ _
  have z2 : w2.heap[w.heap.size + 1]? = some (.cells #[.int .i64 0, .slice none 0 0, .int .i64 0, .int .i64 0, .string ⟨#[]⟩, .bool false, .int .i64 0] 62 (0, 0)) := by rw [← h2, ← e1]; exact new_block _ _
  have z3 : W0.heap[w.heap.size + 1 + 1]? = some (.cells #[.pointer none, .slice none 0 0] 98 (0, 0)) := by rw [← h3, ← e2]; exact new_block _ _
  have HZ1 := hide (block_kept z1 (Below.then b2 b3))
  have HZ2 := hide (block_kept z2 b3)
  have HI : Hid (IsB (w.heap.size + 1 + 1) (w.heap.size + 1 + 1) (Lib.byteCells []) W0) := hide (.inl ⟨Nat.le_refl _, _, z3, World.ownsRowF_nil _ _ _ _, by simp [Value.ownBlock]⟩)
  have HB0 := hide (Below.then b1 (Below.then b2 b3))
  have HE3 := hide e3
  have p1 : W0.cell? ⟨w.heap.size, 1, none⟩ = some (.slice (some ⟨g, o, none⟩) 2 cap) := blk_c (unhide HZ1) 1
  have hW : ((w.alloc (.cells #[.pointer none, .slice (some ⟨g, o, none⟩) 2 cap] 64)).alloc (.cells #[.int .i64 0, .slice none 0 0, .int .i64 0, .int .i64 0, .string ⟨#[]⟩, .bool false, .int .i64 0] 62)).alloc (.cells #[.pointer none, .slice none 0 0] 98) = W0 := by rw [h1, h2, h3]
  clear z1 z2 z3 b1 b2 b3 e1 e2 e3 h1 h2 h3 k1
  have HWL : Hid (∀ (k : Nat) (W : World), k < 2 → IsB (w.heap.size + 1 + 1) (w.heap.size + 1 + 1) (Lib.byteCells (catL s u k)) W → w.heap.size + 1 + 1 ≤ W.heap.size → Calls Tryz.prog 76 #[.pointer (some ⟨w.heap.size + 1 + 1, 0, none⟩), .string (bsT (pickL s u k))] W fun e w' => e = .returned (.tuple #[.int .i64 (bsT (pickL s u k)).size, .nilIface]) ∧ IsB (w.heap.size + 1 + 1) (w.heap.size + 1 + 1) (Lib.byteCells (catL s u (k + 1))) w' ∧ Below (w.heap.size + 1 + 1) W w') := hide fun k W hk hi hl => by
    have h1 := catL_le s u k
    have h2 : (pickL s u k).length ≤ 1048576 := by unfold pickL; split <;> assumption
    have h3 : (Lib.byteCells (catL s u k)).length + (bsT (pickL s u k)).size ≤ 140737488355328 := by rw [bsT_size]; simp only [Lib.byteCells, List.length_map]; omega
    have h := writeString_any (w.heap.size + 1 + 1) (w.heap.size + 1 + 1) (Lib.byteCells (catL s u k)) (bsT (pickL s u k)) W hi h3 hl
    rw [str_bsT, ← byte_app, catL_step s u k hk] at h
    exact h.mono fun e w' hh => ⟨hh.1, hh.2.1, hh.2.2.1⟩
  go_enter Tryz.func38, Tryz.ntmps38
  go_wp2_with fail
  clear hW p1
  go_loopw [8] (fun i wr => ∃ k : Nat, i = .int .i64 (k : Nat) ∧ k ≤ 2 ∧ Below (w.heap.size + 1 + 1) W0 wr ∧ IsB (w.heap.size + 1 + 1) (w.heap.size + 1 + 1) (Lib.byteCells (catL s u k)) wr) (fun i _ => 2 - (intOf i).toNat)
  case atStart => exact ⟨0, rfl, by omega, Below.refl _ _, unhide HI⟩
  case round =>
    obtain ⟨k, rfl, hk, hb, hi⟩ := hrel
    have hz1 := (hb.block w.heap.size (by omega)).trans (unhide HZ1)
    have p0 := blk_c hz1 0
    have p1 := blk_c hz1 1
    have hl : w.heap.size + 1 + 1 ≤ wr.heap.size := by have h1 := hb.size; have h2 := unhide HE3; omega
    have hbw : Below w.heap.size w wr := (unhide HB0).trans (hb.mono (by omega))
    have HI2 := hide hi
    have HB2 := hide hb
    have HBW := hide hbw
    clear hb hi hz1 hbw
    by_cases hk2 : k < 2
    · have n2 : (k : Int) < 2 := by omega
      have hw1 := wrap_up k (by omega)
      go_wp2_with fail
      refine (unhide HT wr (unhide HBW) k hk2).mono ?_
      rintro e w4 ⟨rfl, hb4⟩
      have hi4 : IsB (w.heap.size + 1 + 1) (w.heap.size + 1 + 1) (Lib.byteCells (catL s u k)) w4 := isB_same (unhide HI2) fun j c t z hj _ => hb4.block j (Array.getElem?_eq_some_iff.1 hj).1
      have HB4 := hide ((unhide HB2).trans (hb4.mono hl))
      have hl4 : w.heap.size + 1 + 1 ≤ w4.heap.size := by have := hb4.size; omega
      have HW4 := hide (unhide HWL k w4 hk2 hi4 hl4)
      clear hb4 hi4
      go_wp2_with fail
      refine (unhide HW4).mono ?_
      rintro e w5 ⟨rfl, hi5, hb5⟩
      have HI5 := hide hi5
      have HB5 := hide ((unhide HB4).trans hb5)
      clear hi5 hb5
      go_wp2
      go_roundw
      case rel => exact ⟨k + 1, by go_num, by omega, unhide HB5, unhide HI5⟩
      case measure => simp [intOf]; omega
    · have n2 : ¬ (k : Int) < 2 := by omega
      have hk3 : k = 2 := by omega
      subst hk3
      have HS := hide (Tryz.Builder_String_any_k (w.heap.size + 1 + 1) (w.heap.size + 1 + 1) (s ++ u) wr (unhide HI2) hl)
      go_wp2_with fail
      refine (unhide HS).mono ?_
      rintro e w4 ⟨rfl, _, hb4, _⟩
      have HB4 := hide ((unhide HB2).trans hb4)
      clear hb4
      go_wp2_with fail
      refine (unhide HA _ _).mono ?_
      rintro e w5 ⟨rfl, hb5⟩
      have hl4 : w.heap.size + 1 + 1 ≤ w4.heap.size := by have h1 := (unhide HB4).size; have h2 := unhide HE3; omega
      have hB5 := (unhide HB4).trans (hb5.mono hl4)
      have hz8 := (hB5.block (w.heap.size + 1) (by omega)).trans (unhide HZ2)
      have hB8 := (unhide HB0).trans (hB5.mono (by omega))
      obtain ⟨W9, hW9, hz9, _, hb9⟩ := put7 hz8 (.int .i64 2) (.slice none 0 0) (.int .i64 0) (.int .i64 0) (.string ⟨(s ++ u).toArray⟩) (.bool false) (.int .i64 0)
      have y0 := blk_c hz8 0
      have y1 := blk_c hz8 1
      have y2 := blk_c hz8 2
      have y3 := blk_c hz8 3
      have y4 := blk_c hz8 4
      have y5 := blk_c hz8 5
      have y6 := blk_c hz8 6
      have hfr := blk_o hz8
      have HZ9 := hide hz9
      have HB9 := hide (hB8.trans (hb9.mono (by omega)))
      clear hz9 hb9 hz8 hB8 hB5 hb5
      go_wp2
      have hz9 := unhide HZ9
      have d0 := blk_c hz9 0
      have d1 := blk_c hz9 1
      have d2 := blk_c hz9 2
      have d3 := blk_c hz9 3
      have d4 := blk_c hz9 4
      have d5 := blk_c hz9 5
      have d6 := blk_c hz9 6
      refine bodyPost_ret (v := txtA ⟨(s ++ u).toArray⟩) (by simp [results, Tryz.results38, go_sem, d0, d1, d2, d3, d4, d5, d6]) rfl ⟨rfl, unhide HB9⟩
end Go.Proofs.YtppkilblkobkhaaGreatDoor
