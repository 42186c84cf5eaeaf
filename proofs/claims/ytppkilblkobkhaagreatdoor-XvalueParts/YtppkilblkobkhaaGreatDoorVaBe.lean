/- substring-before, substring-after of texts. -/
import Derived.Test.YtppkilblkobkhaaGreatDoorVaFn
import Derived.Test.YtppkilblkobkhaaGreatDoorNames
namespace Go.Proofs.YtppkilblkobkhaaGreatDoor
open Go.RowKit
/-- What stands ahead of another text, behind it. -/
def beforeL (s u : List UInt8) : List UInt8 := if (Lib.cut s u).2.2 then (Lib.cut s u).1 else []
def afterL (s u : List UInt8) : List UInt8 := (Lib.cut s u).2.1
set_option maxRecDepth 100000 in
set_option maxHeartbeats 4000000 in
theorem before_two (g o cap : Nat) (s u : ByteArray) (w : World) (hV : ValsAt w g o [txtP s, txtP u]) (hs : s.size < 4294967281) (m : Int) (hm : w.cell? ⟨2, 0, none⟩ = some (.int .i64 m)) :
    Calls Tryz.prog 41 #[.agg #[.pointer none, .slice (some ⟨g, o, none⟩) 2 cap]] w fun e W' => e = .returned (txtA (bsT (beforeL s.data.toList u.data.toList))) ∧ Below w.heap.size w W' := by
  have HT := hide (two_at (cap := cap) hV)
  clear hV
  obtain ⟨a1, a2, ok, hcut⟩ : ∃ a1 a2 ok, Lib.cut s.data.toList u.data.toList = (a1, a2, ok) := ⟨_, _, _, rfl⟩
  have HP : Hid (∀ W, Below w.heap.size w W → Calls Tryz.prog 80 #[.string s, .string u] W fun e w' => e = .returned (.tuple #[.string (bsT a1), .string (bsT a2), .bool ok]) ∧ Below W.heap.size W w') := hide fun W hb => by
    have h := Tryz.strings_Cut s u m W hs (kept_cell hb hm)
    rw [hcut] at h
    exact h.mono fun e w' hh => ⟨hh.1, by obtain ⟨n, hn⟩ := hh.2; rw [hn]; exact below_drewN W n⟩
  have HA := hide aText_any
  rw [show beforeL s.data.toList u.data.toList = if ok then a1 else [] from by unfold beforeL; rw [hcut]]
  clear hcut hm
  obtain ⟨T, hTT⟩ : ∃ T, (if ok then a1 else []) = T := ⟨_, rfl⟩
  rw [hTT]
  have HTT := hide hTT
  clear hTT
  obtain ⟨W0, hW0⟩ : ∃ W0, (w.alloc (.cells #[.pointer none, .slice (some ⟨g, o, none⟩) 2 cap] 64)).alloc (.cells #[.int .i64 0, .slice none 0 0, .int .i64 0, .int .i64 0, .string ⟨#[]⟩, .bool false, .int .i64 0] 62) = W0 := ⟨_, rfl⟩
  have hb0 : Below w.heap.size w W0 := by rw [← hW0]; (repeat first | exact Below.refl _ _ | refine Below.alloc ?_ (by simp <;> omega) _)
  have p0 : W0.cell? ⟨w.heap.size, 0, none⟩ = some (.pointer none) := by rw [← hW0]; simp [go_sem]
  have p1 : W0.cell? ⟨w.heap.size, 1, none⟩ = some (.slice (some ⟨g, o, none⟩) 2 cap) := by rw [← hW0]; simp [go_sem]
  have z0 : W0.heap[w.heap.size + 1]? = some (.cells #[.int .i64 0, .slice none 0 0, .int .i64 0, .int .i64 0, .string ⟨#[]⟩, .bool false, .int .i64 0] 62 (0, 0)) := by rw [← hW0]; have h := new_block (w.alloc (.cells #[.pointer none, .slice (some ⟨g, o, none⟩) 2 cap] 64)) (.cells #[.int .i64 0, .slice none 0 0, .int .i64 0, .int .i64 0, .string ⟨#[]⟩, .bool false, .int .i64 0] 62); rw [World.size_alloc] at h; exact h
  have HX : Hid (ClsV W0 W0.drew) := hide ⟨(Below.refl _ _).drew⟩
  have HCE : Hid (∀ w', ClsV W0 w' → w'.cell? ⟨w.heap.size, 0, none⟩ = some (.pointer none) ∧ w'.cell? ⟨w.heap.size, 1, none⟩ = some (.slice (some ⟨g, o, none⟩) 2 cap)) := hide fun w' hC => ⟨kept_cell hC.bel p0, kept_cell hC.bel p1⟩
  have HZ := hide z0
  have HB0 := hide hb0
  clear z0 hb0 p0 p1
  go_enter Tryz.func41, Tryz.ntmps41
  go_wp2_with fail
  clear hW0
  refine wp_region_cls (ClsV W0) (by kernel_rfl) (by kernel_rfl) (unhide HX) ?_
  repeat
    (first
      | go_big_quiet_skip
      | (go_big_quiet_want
         go_big_quiet_op
         first
           | go_big_quiet_on
           | (apply Exists.intro
              refine ⟨fun w' hC => ?_, ?_⟩
              · (first
                  | (go_at_call 75; refine (unhide HT _ (Below.then (unhide HB0) hC.bel) _ (by first | exact .inl rfl | exact .inr rfl)).mono ?_; rintro e w5 ⟨he, hb5⟩; (first | rw [pick0] at he | rw [pick1] at he); subst he; exact ⟨rfl, ⟨Below.then hC.bel hb5⟩⟩)
                  | (go_at_call 80; refine (unhide HP _ (Below.then (unhide HB0) hC.bel)).mono ?_; rintro e w5 ⟨rfl, hb5⟩; exact ⟨rfl, ⟨Below.then hC.bel hb5⟩⟩)
                  | (obtain ⟨k0, k1⟩ := unhide HCE _ hC; go_simp; first | done | rfl))
              go_big_quiet_on)))
  refine wpQuiet_nil ?_
  intro w4 hC4
  have HZ4 := hide (block_kept (unhide HZ) hC4.bel)
  have HB4 := hide (Below.then (unhide HB0) hC4.bel)
  clear HZ HB0 HX HCE HT HP hC4
  cases ok
  · obtain rfl : T = [] := by rw [← unhide HTT]; rfl
    go_wp2_with fail
    refine (unhide HA _ _).mono ?_
    rintro e w8 ⟨rfl, hb8⟩
    have hz8 := block_kept (unhide HZ4) hb8
    have hB8 := Below.then (unhide HB4) hb8
    obtain ⟨W9, hW9, hz9, _, hb9⟩ := put7 hz8 (.int .i64 2) (.slice none 0 0) (.int .i64 0) (.int .i64 0) (.string ⟨#[]⟩) (.bool false) (.int .i64 0)
    have y0 := blk_c hz8 0
    have y1 := blk_c hz8 1
    have y2 := blk_c hz8 2
    have y3 := blk_c hz8 3
    have y4 := blk_c hz8 4
    have y5 := blk_c hz8 5
    have y6 := blk_c hz8 6
    have hfr := blk_o hz8
    have HZ9 := hide hz9
    have HB9 := hide (hB8.trans (hb9.mono (by omega)))
    clear hz9 hb9 hz8 hB8 hb8
    go_wp2
    have hz9 := unhide HZ9
    have d0 := blk_c hz9 0
    have d1 := blk_c hz9 1
    have d2 := blk_c hz9 2
    have d3 := blk_c hz9 3
    have d4 := blk_c hz9 4
    have d5 := blk_c hz9 5
    have d6 := blk_c hz9 6
    refine bodyPost_ret (v := txtA ⟨#[]⟩) (by simp [results, Tryz.results41, go_sem, d0, d1, d2, d3, d4, d5, d6]) rfl ⟨rfl, unhide HB9⟩
  · obtain rfl : T = a1 := by rw [← unhide HTT]; rfl
    go_wp2_with fail
    refine (unhide HA _ _).mono ?_
    rintro e w8 ⟨rfl, hb8⟩
    have hz8 := block_kept (unhide HZ4) hb8
    have hB8 := Below.then (unhide HB4) hb8
    obtain ⟨W9, hW9, hz9, _, hb9⟩ := put7 hz8 (.int .i64 2) (.slice none 0 0) (.int .i64 0) (.int .i64 0) (.string (bsT T)) (.bool false) (.int .i64 0)
    have y0 := blk_c hz8 0
    have y1 := blk_c hz8 1
    have y2 := blk_c hz8 2
    have y3 := blk_c hz8 3
    have y4 := blk_c hz8 4
    have y5 := blk_c hz8 5
    have y6 := blk_c hz8 6
    have hfr := blk_o hz8
    have HZ9 := hide hz9
    have HB9 := hide (hB8.trans (hb9.mono (by omega)))
    clear hz9 hb9 hz8 hB8 hb8
    go_wp2
    have hz9 := unhide HZ9
    have d0 := blk_c hz9 0
    have d1 := blk_c hz9 1
    have d2 := blk_c hz9 2
    have d3 := blk_c hz9 3
    have d4 := blk_c hz9 4
    have d5 := blk_c hz9 5
    have d6 := blk_c hz9 6
    refine bodyPost_ret (v := txtA (bsT T)) (by simp [results, Tryz.results41, go_sem, d0, d1, d2, d3, d4, d5, d6]) rfl ⟨rfl, unhide HB9⟩
set_option maxRecDepth 100000 in
set_option maxHeartbeats 4000000 in
theorem after_two (g o cap : Nat) (s u : ByteArray) (w : World) (hV : ValsAt w g o [txtP s, txtP u]) (hs : s.size < 4294967281) (m : Int) (hm : w.cell? ⟨2, 0, none⟩ = some (.int .i64 m)) :
    Calls Tryz.prog 42 #[.agg #[.pointer none, .slice (some ⟨g, o, none⟩) 2 cap]] w fun e W' => e = .returned (txtA (bsT (afterL s.data.toList u.data.toList))) ∧ Below w.heap.size w W' := by
  have HT := hide (two_at (cap := cap) hV)
  clear hV
  obtain ⟨a1, a2, ok, hcut⟩ : ∃ a1 a2 ok, Lib.cut s.data.toList u.data.toList = (a1, a2, ok) := ⟨_, _, _, rfl⟩
  have HP : Hid (∀ W, Below w.heap.size w W → Calls Tryz.prog 80 #[.string s, .string u] W fun e w' => e = .returned (.tuple #[.string (bsT a1), .string (bsT a2), .bool ok]) ∧ Below W.heap.size W w') := hide fun W hb => by
    have h := Tryz.strings_Cut s u m W hs (kept_cell hb hm)
    rw [hcut] at h
    exact h.mono fun e w' hh => ⟨hh.1, by obtain ⟨n, hn⟩ := hh.2; rw [hn]; exact below_drewN W n⟩
  have HA := hide aText_any
  rw [show afterL s.data.toList u.data.toList = a2 from by unfold afterL; rw [hcut]]
  clear hcut hm
  obtain ⟨T, hTT⟩ : ∃ T, (a2) = T := ⟨_, rfl⟩
  rw [hTT]
  have HTT := hide hTT
  clear hTT
  obtain ⟨W0, hW0⟩ : ∃ W0, (w.alloc (.cells #[.pointer none, .slice (some ⟨g, o, none⟩) 2 cap] 64)).alloc (.cells #[.int .i64 0, .slice none 0 0, .int .i64 0, .int .i64 0, .string ⟨#[]⟩, .bool false, .int .i64 0] 62) = W0 := ⟨_, rfl⟩
  have hb0 : Below w.heap.size w W0 := by rw [← hW0]; (repeat first | exact Below.refl _ _ | refine Below.alloc ?_ (by simp <;> omega) _)
  have p0 : W0.cell? ⟨w.heap.size, 0, none⟩ = some (.pointer none) := by rw [← hW0]; simp [go_sem]
  have p1 : W0.cell? ⟨w.heap.size, 1, none⟩ = some (.slice (some ⟨g, o, none⟩) 2 cap) := by rw [← hW0]; simp [go_sem]
  have z0 : W0.heap[w.heap.size + 1]? = some (.cells #[.int .i64 0, .slice none 0 0, .int .i64 0, .int .i64 0, .string ⟨#[]⟩, .bool false, .int .i64 0] 62 (0, 0)) := by rw [← hW0]; have h := new_block (w.alloc (.cells #[.pointer none, .slice (some ⟨g, o, none⟩) 2 cap] 64)) (.cells #[.int .i64 0, .slice none 0 0, .int .i64 0, .int .i64 0, .string ⟨#[]⟩, .bool false, .int .i64 0] 62); rw [World.size_alloc] at h; exact h
  have HX : Hid (ClsV W0 W0.drew) := hide ⟨(Below.refl _ _).drew⟩
  have HCE : Hid (∀ w', ClsV W0 w' → w'.cell? ⟨w.heap.size, 0, none⟩ = some (.pointer none) ∧ w'.cell? ⟨w.heap.size, 1, none⟩ = some (.slice (some ⟨g, o, none⟩) 2 cap)) := hide fun w' hC => ⟨kept_cell hC.bel p0, kept_cell hC.bel p1⟩
  have HZ := hide z0
  have HB0 := hide hb0
  clear z0 hb0 p0 p1
  go_enter Tryz.func42, Tryz.ntmps42
  go_wp2_with fail
  clear hW0
  refine wp_region_cls (ClsV W0) (by kernel_rfl) (by kernel_rfl) (unhide HX) ?_
  repeat
    (first
      | go_big_quiet_skip
      | (go_big_quiet_want
         go_big_quiet_op
         first
           | go_big_quiet_on
           | (apply Exists.intro
              refine ⟨fun w' hC => ?_, ?_⟩
              · (first
                  | (go_at_call 75; refine (unhide HT _ (Below.then (unhide HB0) hC.bel) _ (by first | exact .inl rfl | exact .inr rfl)).mono ?_; rintro e w5 ⟨he, hb5⟩; (first | rw [pick0] at he | rw [pick1] at he); subst he; exact ⟨rfl, ⟨Below.then hC.bel hb5⟩⟩)
                  | (go_at_call 80; refine (unhide HP _ (Below.then (unhide HB0) hC.bel)).mono ?_; rintro e w5 ⟨rfl, hb5⟩; exact ⟨rfl, ⟨Below.then hC.bel hb5⟩⟩)
                  | (obtain ⟨k0, k1⟩ := unhide HCE _ hC; go_simp; first | done | rfl))
              go_big_quiet_on)))
  refine wpQuiet_nil ?_
  intro w4 hC4
  have HZ4 := hide (block_kept (unhide HZ) hC4.bel)
  have HB4 := hide (Below.then (unhide HB0) hC4.bel)
  clear HZ HB0 HX HCE HT HP hC4
  obtain rfl : T = a2 := (unhide HTT).symm
  go_wp2_with fail
  refine (unhide HA _ _).mono ?_
  rintro e w8 ⟨rfl, hb8⟩
  have hz8 := block_kept (unhide HZ4) hb8
  have hB8 := Below.then (unhide HB4) hb8
  obtain ⟨W9, hW9, hz9, _, hb9⟩ := put7 hz8 (.int .i64 2) (.slice none 0 0) (.int .i64 0) (.int .i64 0) (.string (bsT T)) (.bool false) (.int .i64 0)
  have y0 := blk_c hz8 0
  have y1 := blk_c hz8 1
  have y2 := blk_c hz8 2
  have y3 := blk_c hz8 3
  have y4 := blk_c hz8 4
  have y5 := blk_c hz8 5
  have y6 := blk_c hz8 6
  have hfr := blk_o hz8
  have HZ9 := hide hz9
  have HB9 := hide (hB8.trans (hb9.mono (by omega)))
  clear hz9 hb9 hz8 hB8 hb8
  go_wp2
  have hz9 := unhide HZ9
  have d0 := blk_c hz9 0
  have d1 := blk_c hz9 1
  have d2 := blk_c hz9 2
  have d3 := blk_c hz9 3
  have d4 := blk_c hz9 4
  have d5 := blk_c hz9 5
  have d6 := blk_c hz9 6
  refine bodyPost_ret (v := txtA (bsT T)) (by simp [results, Tryz.results42, go_sem, d0, d1, d2, d3, d4, d5, d6]) rfl ⟨rfl, unhide HB9⟩
end Go.Proofs.YtppkilblkobkhaaGreatDoor
