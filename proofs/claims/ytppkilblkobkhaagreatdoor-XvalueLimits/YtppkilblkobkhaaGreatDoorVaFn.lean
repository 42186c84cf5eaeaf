/- concat, starts-with, contains, substring-before, substring-after, string-length of texts. -/
import Derived.Test.YtppkilblkobkhaaGreatDoorVaLive
import Derived.Test.YtppkilblkobkhaaGreatDoorClsTail
namespace Go.Proofs.YtppkilblkobkhaaGreatDoor
open Go.RowKit
/-- The answer that is a text, a truth, a number. -/
abbrev txtA (s : ByteArray) : Value := .agg #[.int .i64 2, .slice none 0 0, .int .i64 0, .int .i64 0, .string s, .bool false, .int .i64 0]
/-- Texts that are arguments, at every world behind. -/
theorem texts_at {w : World} {g o cap n : Nat} {l : List PV} (hV : ValsAt w g o l) (hl : l.length = n) : ∀ W, Below w.heap.size w W → ∀ (i : Nat) (z : ByteArray), l[i]? = some (txtP z) →
    Calls Tryz.prog 75 #[.agg #[.pointer none, .slice (some ⟨g, o, none⟩) n cap], .int .i64 (i : Nat)] W fun e w' => e = .returned (.string z) ∧ Below W.heap.size W w' :=
  fun W hb i z hi => text_at W g o n cap i z l (hV.on hb) hi hl
def catL (s u : List UInt8) : Nat → List UInt8
  | 0 => []
  | 1 => s
  | _ => s ++ u
def pickL (s u : List UInt8) (k : Nat) : List UInt8 := if k = 0 then s else u
theorem catL_step (s u : List UInt8) (k : Nat) (h : k < 2) : catL s u k ++ pickL s u k = catL s u (k + 1) := by
  rcases (show k = 0 ∨ k = 1 by omega) with rfl | rfl <;> simp [catL, pickL]
theorem catL_le (s u : List UInt8) (k : Nat) : (catL s u k).length ≤ s.length + u.length := by
  unfold catL
  split <;> simp
set_option maxRecDepth 100000 in
set_option maxHeartbeats 4000000 in
theorem concat_two (g o cap : Nat) (s u : List UInt8) (w : World) (hV : ValsAt w g o [txtP (bsT s), txtP (bsT u)]) (hs : s.length ≤ 1048576) (hu : u.length ≤ 1048576) :
    Calls Tryz.prog 38 #[.agg #[.pointer none, .slice (some ⟨g, o, none⟩) 2 cap]] w fun e W' => e = .returned (txtA (bsT (s ++ u))) ∧ Below w.heap.size w W' := by
  have HT : Hid (∀ W, Below w.heap.size w W → ∀ k : Nat, k < 2 → Calls Tryz.prog 75 #[.agg #[.pointer none, .slice (some ⟨g, o, none⟩) 2 cap], .int .i64 (k : Nat)] W fun e w' => e = .returned (.string (bsT (pickL s u k))) ∧ Below W.heap.size W w') := hide fun W hb k hk => by
    rcases (show k = 0 ∨ k = 1 by omega) with rfl | rfl
    · exact texts_at (cap := cap) hV rfl W hb 0 _ rfl
    · exact texts_at (cap := cap) hV rfl W hb 1 _ rfl
  clear hV
  have HA := hide aText_any
  have k1 : ∀ (x : World) (o : Obj), Below x.heap.size x (x.alloc o) := fun x o => (Below.refl _ _).alloc (Nat.le_refl _) _
  obtain ⟨w1, h1⟩ : ∃ w1, w.alloc (.cells #[.pointer none, .slice (some ⟨g, o, none⟩) 2 cap] 64) = w1 := ⟨_, rfl⟩
  obtain ⟨w2, h2⟩ : ∃ w2, w1.alloc (.cells #[.int .i64 0, .slice none 0 0, .int .i64 0, .int .i64 0, .string ⟨#[]⟩, .bool false, .int .i64 0] 62) = w2 := ⟨_, rfl⟩
  obtain ⟨W0, h3⟩ : ∃ W0, w2.alloc (.cells #[.pointer none, .slice none 0 0] 98) = W0 := ⟨_, rfl⟩
  have e1 : w1.heap.size = w.heap.size + 1 := by rw [← h1]; exact World.size_alloc _ _
  have e2 : w2.heap.size = w.heap.size + 1 + 1 := by rw [← h2, World.size_alloc, e1]
  have e3 : W0.heap.size = w.heap.size + 1 + 1 + 1 := by rw [← h3, World.size_alloc, e2]
  have b1 : Below w.heap.size w w1 := by rw [← h1]; exact k1 _ _
  have b2 : Below w1.heap.size w1 w2 := by rw [← h2]; exact k1 _ _
  have b3 : Below w2.heap.size w2 W0 := by rw [← h3]; exact k1 _ _
  have z1 : w1.heap[w.heap.size]? = some (.cells #[.pointer none, .slice (some ⟨g, o, none⟩) 2 cap] 64 (0, 0)) := by rw [← h1]; exact new_block _ _
  have z2 : w2.heap[w.heap.size + 1]? = some (.cells #[.int .i64 0, .slice none 0 0, .int .i64 0, .int .i64 0, .string ⟨#[]⟩, .bool false, .int .i64 0] 62 (0, 0)) := by rw [← h2, ← e1]; exact new_block _ _
  have z3 : W0.heap[w.heap.size + 1 + 1]? = some (.cells #[.pointer none, .slice none 0 0] 98 (0, 0)) := by rw [← h3, ← e2]; exact new_block _ _
  have HZ1 := hide (block_kept z1 (Below.then b2 b3))
  have HZ2 := hide (block_kept z2 b3)
  have HI : Hid (IsB (w.heap.size + 1 + 1) (w.heap.size + 1 + 1) (Lib.byteCells []) W0) := hide (.inl ⟨Nat.le_refl _, _, z3, World.ownsRowF_nil _ _ _ _, by simp [Value.ownBlock]⟩)
  have HB0 := hide (Below.then b1 (Below.then b2 b3))
  have HE3 := hide e3
  have p1 : W0.cell? ⟨w.heap.size, 1, none⟩ = some (.slice (some ⟨g, o, none⟩) 2 cap) := blk_c (unhide HZ1) 1
  have hW : ((w.alloc (.cells #[.pointer none, .slice (some ⟨g, o, none⟩) 2 cap] 64)).alloc (.cells #[.int .i64 0, .slice none 0 0, .int .i64 0, .int .i64 0, .string ⟨#[]⟩, .bool false, .int .i64 0] 62)).alloc (.cells #[.pointer none, .slice none 0 0] 98) = W0 := by rw [h1, h2, h3]
  clear z1 z2 z3 b1 b2 b3 e1 e2 e3 h1 h2 h3 k1
  have HWL : Hid (∀ (k : Nat) (W : World), k < 2 → IsB (w.heap.size + 1 + 1) (w.heap.size + 1 + 1) (Lib.byteCells (catL s u k)) W → w.heap.size + 1 + 1 ≤ W.heap.size → Calls Tryz.prog 76 #[.pointer (some ⟨w.heap.size + 1 + 1, 0, none⟩), .string (bsT (pickL s u k))] W fun e w' => e = .returned (.tuple #[.int .i64 (bsT (pickL s u k)).size, .nilIface]) ∧ IsB (w.heap.size + 1 + 1) (w.heap.size + 1 + 1) (Lib.byteCells (catL s u (k + 1))) w' ∧ Below (w.heap.size + 1 + 1) W w') := hide fun k W hk hi hl => by
    have h1 := catL_le s u k
    have h2 : (pickL s u k).length ≤ 1048576 := by unfold pickL; split <;> assumption
    have h3 : (Lib.byteCells (catL s u k)).length + (bsT (pickL s u k)).size ≤ 140737488355328 := by rw [bsT_size]; simp only [Lib.byteCells, List.length_map]; omega
    have h := writeString_any (w.heap.size + 1 + 1) (w.heap.size + 1 + 1) (Lib.byteCells (catL s u k)) (bsT (pickL s u k)) W hi h3 hl
    rw [str_bsT, ← byte_app, catL_step s u k hk] at h
    exact h.mono fun e w' hh => ⟨hh.1, hh.2.1, hh.2.2.1⟩
  go_enter Tryz.func38, Tryz.ntmps38
  go_wp2_with fail
  clear hW p1
  go_loopw [8] (fun i wr => ∃ k : Nat, i = .int .i64 (k : Nat) ∧ k ≤ 2 ∧ Below (w.heap.size + 1 + 1) W0 wr ∧ IsB (w.heap.size + 1 + 1) (w.heap.size + 1 + 1) (Lib.byteCells (catL s u k)) wr) (fun i _ => 2 - (intOf i).toNat)
  case atStart => exact ⟨0, rfl, by omega, Below.refl _ _, unhide HI⟩
  case round =>
    obtain ⟨k, rfl, hk, hb, hi⟩ := hrel
    have hz1 := (hb.block w.heap.size (by omega)).trans (unhide HZ1)
    have p0 := blk_c hz1 0
    have p1 := blk_c hz1 1
    have hl : w.heap.size + 1 + 1 ≤ wr.heap.size := by have h1 := hb.size; have h2 := unhide HE3; omega
    have hbw : Below w.heap.size w wr := (unhide HB0).trans (hb.mono (by omega))
    have HI2 := hide hi
    have HB2 := hide hb
    have HBW := hide hbw
    clear hb hi hz1 hbw
    by_cases hk2 : k < 2
    · have n2 : (k : Int) < 2 := by omega
      have hw1 := wrap_up k (by omega)
      go_wp2_with fail
      refine (unhide HT wr (unhide HBW) k hk2).mono ?_
      rintro e w4 ⟨rfl, hb4⟩
      have hi4 : IsB (w.heap.size + 1 + 1) (w.heap.size + 1 + 1) (Lib.byteCells (catL s u k)) w4 := isB_same (unhide HI2) fun j c t z hj _ => hb4.block j (Array.getElem?_eq_some_iff.1 hj).1
      have HB4 := hide ((unhide HB2).trans (hb4.mono hl))
      have hl4 : w.heap.size + 1 + 1 ≤ w4.heap.size := by have := hb4.size; omega
      have HW4 := hide (unhide HWL k w4 hk2 hi4 hl4)
      clear hb4 hi4
      go_wp2_with fail
      refine (unhide HW4).mono ?_
      rintro e w5 ⟨rfl, hi5, hb5⟩
      have HI5 := hide hi5
      have HB5 := hide ((unhide HB4).trans hb5)
      clear hi5 hb5
      go_wp2
      go_roundw
      case rel => exact ⟨k + 1, by go_num, by omega, unhide HB5, unhide HI5⟩
      case measure => simp [intOf]; omega
    · have n2 : ¬ (k : Int) < 2 := by omega
      have hk3 : k = 2 := by omega
      subst hk3
      have HS := hide (Tryz.Builder_String_any_k (w.heap.size + 1 + 1) (w.heap.size + 1 + 1) (s ++ u) wr (unhide HI2) hl)
      go_wp2_with fail
      refine (unhide HS).mono ?_
      rintro e w4 ⟨rfl, _, hb4, _⟩
      have HB4 := hide ((unhide HB2).trans hb4)
      clear hb4
      go_wp2_with fail
      refine (unhide HA _ _).mono ?_
      rintro e w5 ⟨rfl, hb5⟩
      have hl4 : w.heap.size + 1 + 1 ≤ w4.heap.size := by have h1 := (unhide HB4).size; have h2 := unhide HE3; omega
      have hB5 := (unhide HB4).trans (hb5.mono hl4)
      have hz8 := (hB5.block (w.heap.size + 1) (by omega)).trans (unhide HZ2)
      have hB8 := (unhide HB0).trans (hB5.mono (by omega))
      obtain ⟨W9, hW9, hz9, _, hb9⟩ := put7 hz8 (.int .i64 2) (.slice none 0 0) (.int .i64 0) (.int .i64 0) (.string ⟨(s ++ u).toArray⟩) (.bool false) (.int .i64 0)
      have y0 := blk_c hz8 0
      have y1 := blk_c hz8 1
      have y2 := blk_c hz8 2
      have y3 := blk_c hz8 3
      have y4 := blk_c hz8 4
      have y5 := blk_c hz8 5
      have y6 := blk_c hz8 6
      have hfr := blk_o hz8
      have HZ9 := hide hz9
      have HB9 := hide (hB8.trans (hb9.mono (by omega)))
      clear hz9 hb9 hz8 hB8 hB5 hb5
      go_wp2
      have hz9 := unhide HZ9
      have d0 := blk_c hz9 0
      have d1 := blk_c hz9 1
      have d2 := blk_c hz9 2
      have d3 := blk_c hz9 3
      have d4 := blk_c hz9 4
      have d5 := blk_c hz9 5
      have d6 := blk_c hz9 6
      refine bodyPost_ret (v := txtA ⟨(s ++ u).toArray⟩) (by simp [results, Tryz.results38, go_sem, d0, d1, d2, d3, d4, d5, d6]) rfl ⟨rfl, unhide HB9⟩
end Go.Proofs.YtppkilblkobkhaaGreatDoor
