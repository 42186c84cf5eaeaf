/- What stands ahead of the point: xnum's writeWhole, at live's number. -/
import Derived.Test.YtnpdjddebeipiaaGreatDoorNumLay
import Derived.Test.YtnpdjddebeipiaaGreatDoorNumPart
import Derived.Test.YtnpdjddebeipiaaGreatDoorNumPad
namespace Go.Proofs.YtnpdjddebeipiaaGreatDoor
open Go.RowKit
attribute [local go_sem ↓] Go.wp_at_zero Go.wp_at_succ
theorem LayAt.lay (w : World) (h t : ByteArray) (x y z g : Int) : LayAt (w.alloc (.cells #[.string h, .string t, .int .i64 x, .int .i64 y, .int .i64 z, .int .i64 g] 57)) w.heap.size h t x y z g := by
  refine ⟨?_, ?_, ?_, ?_, ?_, ?_, ?_, ?_, ?_, ?_, ?_, ?_⟩
  all_goals simp [go_sem]
set_option maxRecDepth 100000 in
set_option maxHeartbeats 2000000 in
theorem writeWhole_live (w : World) (hT : Lib.TabIs Tryz.prog w "internal/strconv.uint64pow10" .u64 Lib.pow10Tab) :
    Calls Tryz.prog 54 #[.agg #[.string ⟨#[]⟩, .string ⟨#[]⟩, .int .i64 1, .int .i64 2, .int .i64 2, .int .i64 3], .int .u64 1234] w fun e w' => e = .returned (.string ⟨#[49, 44, 50, 51, 52]⟩) ∧ Below w.heap.size w w' := by
  have HT := hide hT
  clear hT
  have HP := hide (fun w => padLeft_any ⟨#[49, 50, 51, 52]⟩ 1 w (by decide) (by decide))
  have HD := hide (show ∀ w, Calls Tryz.prog 71 #[.string ⟨#[49, 50, 51, 52]⟩, .int .i64 3] w fun e w' => e = .returned (.string ⟨(partF 4 3 0 [49, 50, 51, 52]).toArray⟩) ∧ Below w.heap.size w w' from fun w => partDigits_any ⟨#[49, 50, 51, 52]⟩ 3 w (by decide) (by decide) (by decide) (by decide))
  go_enter Tryz.func54, Tryz.ntmps54
  go_wp2_with fail
  have hb0 : Below w.heap.size w (w.alloc (.cells #[.string ⟨#[]⟩, .string ⟨#[]⟩, .int .i64 1, .int .i64 2, .int .i64 2, .int .i64 3] 57)) := by
    (repeat first | exact Below.refl _ _ | assumption | refine Below.drew ?_ | refine Below.alloc ?_ (by simp <;> omega) _ | refine Below.setCell ?_ (by simp <;> omega) _)
  have hl := LayAt.lay w ⟨#[]⟩ ⟨#[]⟩ 1 2 2 3
  refine (show Calls Tryz.prog 45 #[.int .u64 1234, .int .i64 10] _ _ from formatUint_any 1234 (by decide) _ (tab_below (unhide HT) hb0)).mono ?_
  rintro e w1 ⟨rfl, hb1⟩
  rw [show (⟨(Lib.decDigits 1234).toArray⟩ : ByteArray) = ⟨#[49, 50, 51, 52]⟩ by decide +kernel]
  have hl1 := hl.below hb1
  have hb01 := Below.then hb0 hb1
  clear hl hb0 hb1 HT
  obtain ⟨c0, c1, c2, c3, c4, c5, o0, o1, o2, o3, o4, o5⟩ := hl1
  have hS : w1.cell? ⟨w.heap.size, 2, none⟩ = some (.int .i64 1) ∧ w1.cell? ⟨w.heap.size, 5, none⟩ = some (.int .i64 3) := ⟨c2, c5⟩
  clear c0 c1 c2 c3 c4 c5 o0 o1 o2 o3 o4 o5
  go_wp2_with fail
  go_region_held3 (fun w' => w'.cell? ⟨w.heap.size, 2, none⟩ = some (.int .i64 1) ∧ w'.cell? ⟨w.heap.size, 5, none⟩ = some (.int .i64 3))
    (first | exact hS | exact ⟨kept_cell hbp hS.1, kept_cell hbp hS.2⟩ | exact ⟨kept_cell hbq hHp.1, kept_cell hbq hHp.2⟩)
    (first
      | (go_at_call 58; refine (unhide HP _).mono ?_; rintro e w2 ⟨rfl, hbp⟩; (have hHp : w2.cell? ⟨w.heap.size, 2, none⟩ = some (.int .i64 1) ∧ w2.cell? ⟨w.heap.size, 5, none⟩ = some (.int .i64 3) := ⟨kept_cell hbp hS.1, kept_cell hbp hS.2⟩); rw [show ((⟨(Lib.repeatL [48] (1 - (⟨#[49, 50, 51, 52]⟩ : ByteArray).size)).toArray⟩ : ByteArray) ++ ⟨#[49, 50, 51, 52]⟩) = ⟨#[49, 50, 51, 52]⟩ by decide +kernel])
      | (go_at_call 71; refine (unhide HD _).mono ?_; rintro e w3 ⟨rfl, hbq⟩; rw [show partF 4 3 0 [49, 50, 51, 52] = [49, 44, 50, 51, 52] by decide +kernel]))
  go_wp2
  go_ret
  exact ⟨rfl, Below.then hb01.drew (Below.then hbp hbq)⟩
end Go.Proofs.YtnpdjddebeipiaaGreatDoor
