/- concat, starts-with, contains, substring-before, substring-after, string-length of texts. -/
import Derived.Test.YtppkilblkobkhaaGreatDoorVaLive
import Derived.Test.YtppkilblkobkhaaGreatDoorClsTail
namespace Go.Proofs.YtppkilblkobkhaaGreatDoor
open Go.RowKit
/-- The answer that is a text, a truth, a number. -/
abbrev txtA (s : ByteArray) : Value := .agg #[.int .i64 2, .slice none 0 0, .int .i64 0, .int .i64 0, .string s, .bool false, .int .i64 0]
abbrev truA (b : Bool) : Value := .agg #[.int .i64 3, .slice none 0 0, .int .i64 0, .int .i64 0, .string ⟨#[]⟩, .bool b, .int .i64 0]
set_option maxRecDepth 100000 in
theorem aTruth_any (b : Bool) (w : World) : Calls Tryz.prog 64 #[.bool b] w fun e w' => e = .returned (truA b) ∧ Below w.heap.size w w' := by
  go_enter Tryz.func64, Tryz.ntmps64
  go_wp2
  go_returns
  exact ⟨rfl, by (repeat first | exact Below.refl _ _ | assumption | refine Below.drew ?_ | refine Below.alloc ?_ (by simp <;> omega) _ | refine Below.setCell ?_ (by simp <;> omega) _)⟩
/-- Texts that are arguments, at every world behind. -/
theorem texts_at {w : World} {g o cap n : Nat} {l : List PV} (hV : ValsAt w g o l) (hl : l.length = n) : ∀ W, Below w.heap.size w W → ∀ (i : Nat) (z : ByteArray), l[i]? = some (txtP z) →
    Calls Tryz.prog 75 #[.agg #[.pointer none, .slice (some ⟨g, o, none⟩) n cap], .int .i64 (i : Nat)] W fun e w' => e = .returned (.string z) ∧ Below W.heap.size W w' :=
  fun W hb i z hi => text_at W g o n cap i z l (hV.on hb) hi hl
/-- The first or the second. -/
def pickB (s u : ByteArray) (k : Int) : ByteArray := if k = 0 then s else u
theorem pick0 (s u : ByteArray) : pickB s u 0 = s := rfl
theorem pick1 (s u : ByteArray) : pickB s u 1 = u := rfl
theorem two_at {w : World} {g o cap : Nat} {s u : ByteArray} (hV : ValsAt w g o [txtP s, txtP u]) : ∀ W, Below w.heap.size w W → ∀ k : Int, k = 0 ∨ k = 1 →
    Calls Tryz.prog 75 #[.agg #[.pointer none, .slice (some ⟨g, o, none⟩) 2 cap], .int .i64 k] W fun e w' => e = .returned (.string (pickB s u k)) ∧ Below W.heap.size W w' := by
  intro W hb k hk
  rcases hk with rfl | rfl
  · exact texts_at (cap := cap) hV rfl W hb 0 s rfl
  · exact texts_at (cap := cap) hV rfl W hb 1 u rfl
set_option maxRecDepth 100000 in
set_option maxHeartbeats 4000000 in
theorem contains_two (g o cap : Nat) (s u : ByteArray) (r : Bool) (w : World) (hV : ValsAt w g o [txtP s, txtP u]) (hr : Lib.contains s.data.toList u.data.toList = r) (hs : s.size < 4294967281) (m : Int) (hm : w.cell? ⟨2, 0, none⟩ = some (.int .i64 m)) :
    Calls Tryz.prog 40 #[.agg #[.pointer none, .slice (some ⟨g, o, none⟩) 2 cap]] w fun e W' => e = .returned (.agg #[.int .i64 3, .slice none 0 0, .int .i64 0, .int .i64 0, .string ⟨#[]⟩, .bool r, .int .i64 0]) ∧ Below w.heap.size w W' := by
  have HT := hide (two_at (cap := cap) hV)
  clear hV
  have HP : Hid (∀ W, Below w.heap.size w W → Calls Tryz.prog 79 #[.string s, .string u] W fun e w' => e = .returned (.bool r) ∧ Below W.heap.size W w') := hide fun W hb => by
    have h := Tryz.strings_Contains s u m W hs (kept_cell hb hm)
    rw [hr] at h
    exact h.mono fun e w' hh => ⟨hh.1, by rw [hh.2]; exact Below.refl _ _⟩
  have HA := hide aTruth_any
  clear hr hm
  obtain ⟨W0, hW0⟩ : ∃ W0, (w.alloc (.cells #[.pointer none, .slice (some ⟨g, o, none⟩) 2 cap] 64)).alloc (.cells #[.int .i64 0, .slice none 0 0, .int .i64 0, .int .i64 0, .string ⟨#[]⟩, .bool false, .int .i64 0] 62) = W0 := ⟨_, rfl⟩
  have hb0 : Below w.heap.size w W0 := by rw [← hW0]; (repeat first | exact Below.refl _ _ | refine Below.alloc ?_ (by simp <;> omega) _)
  have p0 : W0.cell? ⟨w.heap.size, 0, none⟩ = some (.pointer none) := by rw [← hW0]; simp [go_sem]
  have p1 : W0.cell? ⟨w.heap.size, 1, none⟩ = some (.slice (some ⟨g, o, none⟩) 2 cap) := by rw [← hW0]; simp [go_sem]
  have z0 : W0.heap[w.heap.size + 1]? = some (.cells #[.int .i64 0, .slice none 0 0, .int .i64 0, .int .i64 0, .string ⟨#[]⟩, .bool false, .int .i64 0] 62 (0, 0)) := by rw [← hW0]; have h := new_block (w.alloc (.cells #[.pointer none, .slice (some ⟨g, o, none⟩) 2 cap] 64)) (.cells #[.int .i64 0, .slice none 0 0, .int .i64 0, .int .i64 0, .string ⟨#[]⟩, .bool false, .int .i64 0] 62); rw [World.size_alloc] at h; exact h
  have HX : Hid (ClsV W0 W0.drew) := hide ⟨(Below.refl _ _).drew⟩
  have HCE : Hid (∀ w', ClsV W0 w' → w'.cell? ⟨w.heap.size, 0, none⟩ = some (.pointer none) ∧ w'.cell? ⟨w.heap.size, 1, none⟩ = some (.slice (some ⟨g, o, none⟩) 2 cap)) := hide fun w' hC => ⟨kept_cell hC.bel p0, kept_cell hC.bel p1⟩
  have HZ := hide z0
  have HB0 := hide hb0
  clear z0 hb0 p0 p1
  go_enter Tryz.func40, Tryz.ntmps40
  go_wp2_with fail
  clear hW0
  refine wp_region_cls_tail 6 (ClsV W0) (by kernel_rfl) (by kernel_rfl) (by kernel_rfl) (unhide HX) ?_
  simp only [List.take_succ_cons, List.take_zero, List.drop_succ_cons, List.drop_zero]
  repeat
    (first
      | go_big_quiet_skip
      | (go_big_quiet_want
         go_big_quiet_op
         first
           | go_big_quiet_on
           | (apply Exists.intro
              refine ⟨fun w' hC => ?_, ?_⟩
              · (first
                  | (go_at_call 75; refine (unhide HT _ (Below.then (unhide HB0) hC.bel) _ (by first | exact .inl rfl | exact .inr rfl)).mono ?_; rintro e w5 ⟨he, hb5⟩; (first | rw [pick0] at he | rw [pick1] at he); subst he; exact ⟨rfl, ⟨Below.then hC.bel hb5⟩⟩)
                  | (go_at_call 79; refine (unhide HP _ (Below.then (unhide HB0) hC.bel)).mono ?_; rintro e w5 ⟨rfl, hb5⟩; exact ⟨rfl, ⟨Below.then hC.bel hb5⟩⟩)
                  | (go_at_call 64; refine (unhide HA _ _).mono ?_; rintro e w5 ⟨rfl, hb5⟩; exact ⟨rfl, ⟨Below.then hC.bel hb5⟩⟩)
                  | (obtain ⟨k0, k1⟩ := unhide HCE _ hC; go_simp; first | done | rfl))
              go_big_quiet_on)))
  refine wpQuiet_nil ?_
  intro w8 hC8
  have hz8 := block_kept (unhide HZ) hC8.bel
  have hB8 := Below.then (unhide HB0) hC8.bel
  obtain ⟨W9, hW9, hz9, _, hb9⟩ := put7 hz8 (.int .i64 3) (.slice none 0 0) (.int .i64 0) (.int .i64 0) (.string ⟨#[]⟩) (.bool r) (.int .i64 0)
  have y0 := blk_c hz8 0
  have y1 := blk_c hz8 1
  have y2 := blk_c hz8 2
  have y3 := blk_c hz8 3
  have y4 := blk_c hz8 4
  have y5 := blk_c hz8 5
  have y6 := blk_c hz8 6
  have hfr := blk_o hz8
  have HZ9 := hide hz9
  have HB9 := hide (hB8.trans (hb9.mono (by omega)))
  clear hz9 hb9 hz8 hB8 HZ HB0 HX HCE HT hC8
  go_wp2
  have hz9 := unhide HZ9
  have d0 := blk_c hz9 0
  have d1 := blk_c hz9 1
  have d2 := blk_c hz9 2
  have d3 := blk_c hz9 3
  have d4 := blk_c hz9 4
  have d5 := blk_c hz9 5
  have d6 := blk_c hz9 6
  refine bodyPost_ret (v := .agg #[.int .i64 3, .slice none 0 0, .int .i64 0, .int .i64 0, .string ⟨#[]⟩, .bool r, .int .i64 0]) (by simp [results, Tryz.results40, go_sem, d0, d1, d2, d3, d4, d5, d6]) rfl ⟨rfl, unhide HB9⟩
end Go.Proofs.YtppkilblkobkhaaGreatDoor
