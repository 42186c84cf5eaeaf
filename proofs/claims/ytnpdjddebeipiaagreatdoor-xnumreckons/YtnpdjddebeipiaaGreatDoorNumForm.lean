/- A number by a picture, at live's number and picture: xnum's Format. -/
import Derived.Test.YtnpdjddebeipiaaGreatDoorNumFmt
import Derived.Test.YtnpdjddebeipiaaGreatDoorNumSize
namespace Go.Proofs.YtnpdjddebeipiaaGreatDoor
open Go.RowKit
attribute [local go_sem ↓] Go.wp_at_zero Go.wp_at_succ
set_option maxRecDepth 100000 in
set_option maxHeartbeats 1000000 in
theorem format_live (w : World) (hE : NumEnv w) :
    Calls Tryz.prog 29 #[.agg #[.int .i64 0, .int .i64 1234567000], .string ⟨#[35, 44, 35, 35, 48, 46, 48, 48]⟩] w fun e w' => e = .returned (.tuple #[.string ⟨#[49, 44, 50, 51, 52, 46, 53, 55]⟩, .int .i64 0]) ∧ Below w.heap.size w w' := by
  have HE := hide hE
  clear hE
  go_enter Tryz.func29, Tryz.ntmps29
  go_wp2_with fail
  have hb0 : Below w.heap.size w (w.alloc (.cells #[.int .i64 0, .int .i64 1234567000] 24)) := by
    (repeat first | exact Below.refl _ _ | assumption | refine Below.drew ?_ | refine Below.alloc ?_ (by simp <;> omega) _ | refine Below.setCell ?_ (by simp <;> omega) _)
  refine (readPicture_live _ ((unhide HE).below hb0)).mono ?_
  rintro e w1 ⟨rfl, hb1⟩
  have hn : NumAt w1 w.heap.size 0 1234567000 := NumAt.below (w := (w.alloc (.cells #[.int .i64 0, .int .i64 1234567000] 24))) ⟨by simp [go_sem], by simp [go_sem], by simp [go_sem], by simp [go_sem]⟩ hb1
  have hb01 := Below.then hb0 hb1
  have hlt := block_lt_of_cell hn.kind
  have hsz := hb01.size
  clear hb0 hb1
  go_upto_region 2 with fail
  refine wp_named ?_
  intro W hW
  have hlA : LayAt W w1.heap.size ⟨#[]⟩ ⟨#[]⟩ 1 2 2 3 := by
    rw [hW]; exact (LayAt.lay w1 ⟨#[]⟩ ⟨#[]⟩ 1 2 2 3).below (by (repeat first | exact Below.refl _ _ | assumption | refine Below.drew ?_ | refine Below.alloc ?_ (by simp <;> omega) _ | refine Below.setCell ?_ (by simp <;> omega) _))
  have hnW : NumAt W w.heap.size 0 1234567000 := by
    rw [hW]; exact hn.below (by (repeat first | exact Below.refl _ _ | assumption | refine Below.drew ?_ | refine Below.alloc ?_ (by simp <;> omega) _ | refine Below.setCell ?_ (by simp <;> omega) _))
  have hbW : Below w.heap.size w W := by
    rw [hW]; exact (hb01.alloc hsz _).alloc (by simp; omega) _
  clear hW hn hlt hsz hb01
  have HA := hide hlA
  have HN := hide hnW
  obtain ⟨c0, c1, c2, c3, c4, c5, o0, o1, o2, o3, o4, o5⟩ := hlA
  obtain ⟨n0, n1, n2, n3⟩ := hnW
  go_wp2_with fail
  refine (isNaN_any 0 1234567000 _).mono ?_
  rintro e w' ⟨rfl, rfl⟩
  have x1 := block_lt_of_cell c0
  have x2 := block_lt_of_cell n0
  go_upto_region 7 with fail
  refine wp_named ?_
  intro X hX
  have hBX : Below W.heap.size W X := by
    rw [hX]
    (repeat first | exact Below.refl _ _ | assumption | refine Below.drew ?_ | refine Below.alloc ?_ (by simp <;> omega) _ | refine Below.setCell ?_ (by simp <;> omega) _)
  have hlA := (unhide HA).below hBX
  have hnX := (unhide HN).below hBX
  have hbX := Below.then hbW hBX
  have hlE : LayAt X (W.heap.size + 1) ⟨#[]⟩ ⟨#[]⟩ 1 2 2 3 := by
    rw [hX]
    have := LayAt.lay (W.alloc (.cells #[.int .i64 0, .int .i64 1234567000] 24)) ⟨#[]⟩ ⟨#[]⟩ 1 2 2 3
    simpa using this
  clear hX c0 c1 c2 c3 c4 c5 o0 o1 o2 o3 o4 o5 n0 n1 n2 n3 HA HN hbW hBX x1 x2
  have HA := hide hlA
  have HN := hide hnX
  have HLE := hide hlE
  obtain ⟨c0, c1, c2, c3, c4, c5, o0, o1, o2, o3, o4, o5⟩ := hlA
  obtain ⟨n0, n1, n2, n3⟩ := hnX
  go_wp2_with fail
  refine (isBelow_any 0 1234567000 _).mono ?_
  rintro e w' ⟨rfl, rfl⟩
  rw [show belowB 0 1234567000 = false from rfl]
  go_upto_region 9 with fail
  refine wp_named ?_
  intro Y hY
  have hBY : Below X.heap.size X Y := by
    rw [hY]
    (repeat first | exact Below.refl _ _ | assumption | refine Below.drew ?_ | refine Below.alloc ?_ (by simp <;> omega) _ | refine Below.setCell ?_ (by simp <;> omega) _)
  have hbY := Below.then hbX hBY
  have hlA := (unhide HA).below hBY
  have hlE := (unhide HLE).below hBY
  have hnY := (unhide HN).below hBY
  clear hY c0 c1 c2 c3 c4 c5 o0 o1 o2 o3 o4 o5 n0 n1 n2 n3 HA HN HLE hbX hBY
  have HTB := hide ((unhide HE).below hbY.drew).pow
  have HW := hide (writeSize_live Y.drew (unhide HTB))
  obtain ⟨c0, c1, c2, c3, c4, c5, _, _, _, _, _, _⟩ := hlA
  obtain ⟨e0, e1, _, _, _, _, _, _, _, _, _, _⟩ := hlE
  obtain ⟨n0, n1, _, _⟩ := hnY
  have hS : Y.cell? ⟨w1.heap.size, 0, none⟩ = some (.string ⟨#[]⟩) ∧ Y.cell? ⟨w1.heap.size, 1, none⟩ = some (.string ⟨#[]⟩) ∧ Y.cell? ⟨w1.heap.size, 2, none⟩ = some (.int .i64 1) ∧ Y.cell? ⟨w1.heap.size, 3, none⟩ = some (.int .i64 2) ∧ Y.cell? ⟨w1.heap.size, 4, none⟩ = some (.int .i64 2) ∧ Y.cell? ⟨w1.heap.size, 5, none⟩ = some (.int .i64 3) ∧ Y.cell? ⟨W.heap.size + 1, 0, none⟩ = some (.string ⟨#[]⟩) ∧ Y.cell? ⟨W.heap.size + 1, 1, none⟩ = some (.string ⟨#[]⟩) ∧ Y.cell? ⟨w.heap.size, 0, none⟩ = some (.int .i64 0) ∧ Y.cell? ⟨w.heap.size, 1, none⟩ = some (.int .i64 1234567000) := ⟨c0, c1, c2, c3, c4, c5, e0, e1, n0, n1⟩
  clear c0 c1 c2 c3 c4 c5 e0 e1 n0 n1
  go_region_held3 (fun w' => w'.cell? ⟨w1.heap.size, 0, none⟩ = some (.string ⟨#[]⟩) ∧ w'.cell? ⟨w1.heap.size, 1, none⟩ = some (.string ⟨#[]⟩) ∧ w'.cell? ⟨w1.heap.size, 2, none⟩ = some (.int .i64 1) ∧ w'.cell? ⟨w1.heap.size, 3, none⟩ = some (.int .i64 2) ∧ w'.cell? ⟨w1.heap.size, 4, none⟩ = some (.int .i64 2) ∧ w'.cell? ⟨w1.heap.size, 5, none⟩ = some (.int .i64 3) ∧ w'.cell? ⟨W.heap.size + 1, 0, none⟩ = some (.string ⟨#[]⟩) ∧ w'.cell? ⟨W.heap.size + 1, 1, none⟩ = some (.string ⟨#[]⟩) ∧ w'.cell? ⟨w.heap.size, 0, none⟩ = some (.int .i64 0) ∧ w'.cell? ⟨w.heap.size, 1, none⟩ = some (.int .i64 1234567000))
    (first | exact hS | exact ⟨kept_cell hbp hS.1, kept_cell hbp hS.2.1, kept_cell hbp hS.2.2.1, kept_cell hbp hS.2.2.2.1, kept_cell hbp hS.2.2.2.2.1, kept_cell hbp hS.2.2.2.2.2.1, kept_cell hbp hS.2.2.2.2.2.2.1, kept_cell hbp hS.2.2.2.2.2.2.2.1, kept_cell hbp hS.2.2.2.2.2.2.2.2.1, kept_cell hbp hS.2.2.2.2.2.2.2.2.2⟩)
    (first
      | (go_at_call 44; refine (unhide HW).mono ?_; rintro e w3 ⟨rfl, hbp⟩))
  go_wp2
  go_ret2
  exact ⟨rfl, Below.then hbY.drew hbp⟩
end Go.Proofs.YtnpdjddebeipiaaGreatDoor
