/- A number as a text: xnum's Text. -/
import Derived.Test.YtnpdjddebeipiaaGreatDoorNumNamed
import Derived.Test.YtnpdjddebeipiaaGreatDoorNumPad
import Derived.Deep.RegionWith
import Derived.Deep.DeepCutAuto
namespace Go.Proofs.YtnpdjddebeipiaaGreatDoor
open Go.RowKit
set_option maxRecDepth 100000 in
set_option maxHeartbeats 4000000 in
theorem text_live (w : World) (htab : Lib.TabIs Tryz.prog w "internal/strconv.uint64pow10" .u64 Lib.pow10Tab) :
    Calls Tryz.prog 30 #[.agg #[.int .i64 0, .int .i64 333333]] w fun e w' => e = .returned (.string ⟨#[48, 46, 51, 51, 51, 51, 51, 51]⟩) ∧ Below w.heap.size w w' := by
  have HT := hide htab
  clear htab
  have HQ := hide (show ∀ w, Calls Tryz.prog 26 #[.agg #[.int .u64 0, .int .u64 333333], .int .u64 1000000] w fun e w' => e = .returned (.agg #[.int .u64 0, .int .u64 333333]) ∧ w' = ((w.alloc (.cells #[.int .u64 0, .int .u64 333333] 35)).alloc (.cells #[.int .u64 0, .int .u64 333333] 35)).drew from fun w => quotient_any 333333 1000000 w (by decide) (by decide) (by decide))
  have HV := hide (show ∀ w, Calls Tryz.prog 24 #[.int .i64 333333] w fun e w' => e = .returned (.int .u64 333333) ∧ w' = w from fun w => sizeOf_any 333333 w (by decide) (by decide))
  go_enter Tryz.func30, Tryz.ntmps30
  go_wp2_with fail
  refine (unhide HV _).mono ?_
  rintro e w1 ⟨rfl, rfl⟩
  go_wp2_with fail
  refine (unhide HQ _).mono ?_
  rintro e w1 ⟨rfl, rfl⟩
  go_wp2_with fail
  have hX : Below w.heap.size w ((((w.alloc (.cells #[.int .i64 0, .int .i64 333333] 24)).alloc (.cells #[.int .u64 0, .int .u64 333333] 35)).alloc (.cells #[.int .u64 0, .int .u64 333333] 35)).alloc (.cells #[.int .u64 0, .int .u64 333333] 35)).drew := by
    (repeat first | exact Below.refl _ _ | assumption | refine Below.drew ?_ | refine Below.alloc ?_ (by simp <;> omega) _ | refine Below.setCell ?_ (by simp <;> omega) _)
  have c0 : (((((w.alloc (.cells #[.int .i64 0, .int .i64 333333] 24)).alloc (.cells #[.int .u64 0, .int .u64 333333] 35)).alloc (.cells #[.int .u64 0, .int .u64 333333] 35)).alloc (.cells #[.int .u64 0, .int .u64 333333] 35)).drew).cell? ⟨w.heap.size, 0, none⟩ = some (.int .i64 0) := by simp [go_sem]
  have c1 : (((((w.alloc (.cells #[.int .i64 0, .int .i64 333333] 24)).alloc (.cells #[.int .u64 0, .int .u64 333333] 35)).alloc (.cells #[.int .u64 0, .int .u64 333333] 35)).alloc (.cells #[.int .u64 0, .int .u64 333333] 35)).drew).cell? ⟨w.heap.size, 1, none⟩ = some (.int .i64 333333) := by simp [go_sem]
  have d1 : (((((w.alloc (.cells #[.int .i64 0, .int .i64 333333] 24)).alloc (.cells #[.int .u64 0, .int .u64 333333] 35)).alloc (.cells #[.int .u64 0, .int .u64 333333] 35)).alloc (.cells #[.int .u64 0, .int .u64 333333] 35)).drew).cell? ⟨w.heap.size + 1 + 1 + 1, 1, none⟩ = some (.int .u64 333333) := by simp [go_sem]
  refine (show Calls Tryz.prog 45 #[.int .u64 0, .int .i64 10] (((((w.alloc (.cells #[.int .i64 0, .int .i64 333333] 24)).alloc (.cells #[.int .u64 0, .int .u64 333333] 35)).alloc (.cells #[.int .u64 0, .int .u64 333333] 35)).alloc (.cells #[.int .u64 0, .int .u64 333333] 35)).drew) _ from formatUint_any 0 (by decide) _ (tab_below (unhide HT) hX)).mono ?_
  rintro e w2 ⟨rfl, hb2⟩
  rw [show (⟨(Lib.decDigits 0).toArray⟩ : ByteArray) = ⟨#[48]⟩ by decide +kernel]
  have hb02 := Below.then hX hb2
  have c0' := kept_cell hb2 c0
  have c1' := kept_cell hb2 c1
  have d1' := kept_cell hb2 d1
  clear c0 c1 d1
  go_wp2_with fail
  refine (show Calls Tryz.prog 46 #[.int .u64 333333] w2 _ from placesOf_any 333333 w2 (by decide) (tab_below (unhide HT) hb02)).mono ?_
  rintro e w3 ⟨rfl, hb3⟩
  rw [show (⟨(placesL 333333).toArray⟩ : ByteArray) = ⟨#[51, 51, 51, 51, 51, 51]⟩ by decide +kernel]
  have c0'' := kept_cell hb3 c0'
  have c1'' := kept_cell hb3 c1'
  clear c0' c1' d1'
  go_wp2_with (go_at_call 22; refine (isBelow_any _ _ _).mono ?_; rintro e w' ⟨rfl, rfl⟩; rw [show belowB 0 333333 = false from rfl])
  go_ret
  refine ⟨rfl, ?_⟩
  exact (Below.then hb02 hb3).alloc (Below.then hb02 hb3).size _
end Go.Proofs.YtnpdjddebeipiaaGreatDoor
