/- What stands between head and tail: xnum's writeSize, at live's number and picture. -/
import Derived.Test.YtnpdjddebeipiaaGreatDoorNumWrite
import Derived.Test.YtnpdjddebeipiaaGreatDoorNumRound
import Derived.Test.YtnpdjddebeipiaaGreatDoorNumDiv
namespace Go.Proofs.YtnpdjddebeipiaaGreatDoor
open Go.RowKit
attribute [local go_sem ↓] Go.wp_at_zero Go.wp_at_succ
set_option maxRecDepth 100000 in
set_option maxHeartbeats 1000000 in
theorem writeSize_live (w : World) (hT : Lib.TabIs Tryz.prog w "internal/strconv.uint64pow10" .u64 Lib.pow10Tab) :
    Calls Tryz.prog 44 #[.agg #[.string ⟨#[]⟩, .string ⟨#[]⟩, .int .i64 1, .int .i64 2, .int .i64 2, .int .i64 3], .agg #[.int .i64 0, .int .i64 1234567000]] w fun e w' => e = .returned (.string ⟨#[49, 44, 50, 51, 52, 46, 53, 55]⟩) ∧ Below w.heap.size w w' := by
  have HT := hide hT
  clear hT
  have HC := hide (fun w => Tryz.strings_Contains_one ⟨#[]⟩ 37 w)
  have HV := hide (show ∀ w, Calls Tryz.prog 24 #[.int .i64 1234567000] w fun e w' => e = .returned (.int .u64 1234567000) ∧ w' = w from fun w => sizeOf_any 1234567000 w (by decide) (by decide))
  have HQ := hide (show ∀ w, Calls Tryz.prog 26 #[.agg #[.int .u64 0, .int .u64 1234570000], .int .u64 1000000] w fun e w' => e = .returned (.agg #[.int .u64 1234, .int .u64 570000]) ∧ Below w.heap.size w w' from fun w => (quotient_any 1234570000 1000000 w (by decide) (by decide) (by decide)).mono (by rintro e w' ⟨rfl, rfl⟩; exact ⟨rfl, by (repeat first | exact Below.refl _ _ | assumption | refine Below.drew ?_ | refine Below.alloc ?_ (by simp <;> omega) _ | refine Below.setCell ?_ (by simp <;> omega) _)⟩))
  go_enter Tryz.func44, Tryz.ntmps44
  go_wp2_with fail
  refine (unhide HC _).mono ?_
  rintro e w' ⟨rfl, rfl⟩
  rw [show decide (0 ≤ Lib.indexByte [] 37) = false by decide +kernel]
  go_wp2_with fail
  refine (unhide HV _).mono ?_
  rintro e w' ⟨rfl, rfl⟩
  go_wp2_with fail
  refine (isInfinite_any 0 1234567000 _).mono ?_
  rintro e w' ⟨rfl, rfl⟩
  rw [show infB 0 = false from rfl]
  go_wp2_with fail
  refine (roundTo_live _).mono ?_
  rintro e w' ⟨rfl, rfl⟩
  go_wp2_with fail
  refine (unhide HQ _).mono ?_
  rintro e w1 ⟨rfl, hb1⟩
  have hl := (LayAt.lay w ⟨#[]⟩ ⟨#[]⟩ 1 2 2 3).below (w' := w1) (Below.then (by (repeat first | exact Below.refl _ _ | assumption | refine Below.drew ?_ | refine Below.alloc ?_ (by simp <;> omega) _ | refine Below.setCell ?_ (by simp <;> omega) _)) hb1)
  have hb01 : Below w.heap.size w w1 := Below.then (by (repeat first | exact Below.refl _ _ | assumption | refine Below.drew ?_ | refine Below.alloc ?_ (by simp <;> omega) _ | refine Below.setCell ?_ (by simp <;> omega) _)) hb1
  have hsz := hb01.size
  have hlt := block_lt_of_cell hl.c0
  clear hb1 HQ HV HC
  go_upto_region 8 with fail
  refine wp_named ?_
  intro W hW
  have hlW : LayAt W w.heap.size ⟨#[]⟩ ⟨#[]⟩ 1 2 2 3 := by
    rw [hW]; exact hl.below (by (repeat first | exact Below.refl _ _ | assumption | refine Below.drew ?_ | refine Below.alloc ?_ (by simp <;> omega) _ | refine Below.setCell ?_ (by simp <;> omega) _))
  have hbW : Below w.heap.size w W := by
    rw [hW]; exact hb01.alloc hsz _
  have hp0 : W.cell? ⟨w1.heap.size, 0, none⟩ = some (.int .u64 1234) := by rw [hW]; simp [go_sem]
  have hp1 : W.cell? ⟨w1.heap.size, 1, none⟩ = some (.int .u64 570000) := by rw [hW]; simp [go_sem]
  clear hW hl hsz
  have HL := hide hlW
  obtain ⟨c0, c1, c2, c3, c4, c5, o0, o1, o2, o3, o4, o5⟩ := hlW
  go_wp2_with fail
  refine (writeWhole_live _ (tab_below (unhide HT) hbW)).mono ?_
  rintro e w2 ⟨rfl, hb2⟩
  have hS : w2.cell? ⟨w1.heap.size, 1, none⟩ = some (.int .u64 570000) ∧ w2.cell? ⟨w.heap.size, 3, none⟩ = some (.int .i64 2) := ⟨kept_cell hb2 hp1, kept_cell hb2 c3⟩
  have hb02 := Below.then hbW hb2
  have HT2 := hide (tab_below (unhide HT) hb02.drew)
  clear c0 c1 c2 c3 c4 c5 o0 o1 o2 o3 o4 o5 hp0 hp1 HL HT hb2 hbW hb01
  have HP := hide (fun w => padRight_any ⟨#[53, 55]⟩ 2 w (by decide) (by decide))
  go_wp2_with fail
  go_region_held3 (fun w' => w'.cell? ⟨w1.heap.size, 1, none⟩ = some (.int .u64 570000) ∧ w'.cell? ⟨w.heap.size, 3, none⟩ = some (.int .i64 2))
    (first | exact hS | exact hHp | exact ⟨kept_cell hbq hHp.1, kept_cell hbq hHp.2⟩)
    (first
      | (go_at_call 46; refine (show Calls Tryz.prog 46 #[.int .u64 570000] w2.drew _ from placesOf_any 570000 _ (by decide) (unhide HT2)).mono ?_; rintro e w3 ⟨rfl, hbp⟩; (have hHp : w3.cell? ⟨w1.heap.size, 1, none⟩ = some (.int .u64 570000) ∧ w3.cell? ⟨w.heap.size, 3, none⟩ = some (.int .i64 2) := ⟨kept_cell hbp hS.1, kept_cell hbp hS.2⟩); rw [show (⟨(placesL 570000).toArray⟩ : ByteArray) = ⟨#[53, 55]⟩ by decide +kernel])
      | (go_at_call 55; refine (unhide HP _).mono ?_; rintro e w4 ⟨rfl, hbq⟩; rw [show (⟨#[53, 55]⟩ ++ (⟨(Lib.repeatL [48] (2 - (⟨#[53, 55]⟩ : ByteArray).size)).toArray⟩ : ByteArray)) = ⟨#[53, 55]⟩ by decide +kernel]))
  go_wp2
  go_ret
  exact ⟨rfl, Below.then hb02.drew (Below.then hbp hbq)⟩
end Go.Proofs.YtnpdjddebeipiaaGreatDoor
