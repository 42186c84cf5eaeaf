/- The pictures 0.###### and #,##0.######: what xnum's readPicture reads of them. -/
import Derived.Test.YtndoodiimjkojaaGreatDoorNumFmt
namespace Go.Proofs.YtndoodiimjkojaaGreatDoor
open Go.RowKit
attribute [local go_sem ↓] Go.wp_at_zero Go.wp_at_succ
set_option maxHeartbeats 1000000 in
theorem groupOf_a (w : World) :
    Calls Tryz.prog 59 #[.string ⟨#[48]⟩] w fun e w' => e = .returned (.int .i64 0) ∧ w' = w := by
  have HL := hide (fun w => Tryz.strings_LastIndex_one ⟨#[48]⟩ ⟨#[44]⟩ rfl (by decide) w)
  go_enter Tryz.func59, Tryz.ntmps59
  go_wp2_with fail
  refine (unhide HL _).mono ?_
  rintro e w1 ⟨rfl, rfl⟩
  rw [show Lib.lastIndexByte ⟨#[48]⟩ ((⟨#[44]⟩ : ByteArray)[0]'(by decide)).toNat = -1 by decide +kernel]
  go_wp2
  go_ret
  exact ⟨rfl, rfl⟩
set_option maxHeartbeats 1000000 in
theorem isRest_6 (w : World) (hm : MaxLenIs w) :
    Calls Tryz.prog 56 #[.string ⟨#[35, 35, 35, 35, 35, 35]⟩] w fun e w' => e = .returned (.bool true) ∧ Below w.heap.size w w' := by
  have HM := hide hm
  clear hm
  have HA := hide (fun w => Tryz.strings_ContainsAny_laid ⟨#[35, 35, 35, 35, 35, 35]⟩ ⟨#[44, 46]⟩ w (by decide) (by decide) (ascii_of _ (by decide)) (ascii_of _ (by decide)))
  go_enter Tryz.func56, Tryz.ntmps56
  go_wp2_with fail
  refine (unhide HA _).mono ?_
  rintro e w1 ⟨rfl, hb1⟩
  rw [show Lib.containsAny (⟨#[35, 35, 35, 35, 35, 35]⟩ : ByteArray).data.toList (⟨#[44, 46]⟩ : ByteArray).data.toList = false by decide +kernel]
  obtain ⟨m, hm1⟩ := (unhide HM).below hb1
  have HM1 := hide hm1
  clear hm1
  go_wp2_with fail
  refine (Tryz.strings_Contains ⟨#[35, 35, 35, 35, 35, 35]⟩ ⟨#[35, 48]⟩ m _ (by decide) (unhide HM1)).mono ?_
  rintro e w2 ⟨rfl, rfl⟩
  rw [show Lib.contains (⟨#[35, 35, 35, 35, 35, 35]⟩ : ByteArray).data.toList (⟨#[35, 48]⟩ : ByteArray).data.toList = false by decide +kernel]
  go_wp2
  go_ret
  exact ⟨rfl, hb1⟩
set_option maxHeartbeats 1000000 in
theorem isWhole_a (w : World) (hm : MaxLenIs w) :
    Calls Tryz.prog 55 #[.string ⟨#[48]⟩] w fun e w' => e = .returned (.bool true) ∧ Below w.heap.size w w' := by
  have HM := hide hm
  obtain ⟨m, hm0⟩ := hm
  have HM0 := hide hm0
  clear hm0
  have HX := hide (fun w => Tryz.strings_HasSuffix ⟨#[48]⟩ ⟨#[44]⟩ w (by decide))
  have HPr := hide (fun w => Tryz.strings_HasPrefix ⟨#[48]⟩ ⟨#[44]⟩ w)
  go_enter Tryz.func55, Tryz.ntmps55
  go_wp2_with fail
  refine (Tryz.strings_ReplaceAll ⟨#[48]⟩ ⟨#[44]⟩ ⟨#[]⟩ m _ (by decide) (unhide HM0) (by decide) (by decide +kernel)).mono ?_
  rintro e w1 ⟨rfl, hb1⟩
  rw [show Lib.replaceAll (⟨#[48]⟩ : ByteArray).data.toList (⟨#[44]⟩ : ByteArray).data.toList (⟨#[]⟩ : ByteArray).data.toList = [48] by decide +kernel]
  obtain ⟨m1, hm1⟩ := (unhide HM).below hb1
  have HM1 := hide hm1
  clear hm1
  go_wp2_with fail
  refine (Tryz.strings_Contains ⟨#[48]⟩ ⟨#[48, 35]⟩ m1 _ (by decide) (unhide HM1)).mono ?_
  rintro e w2 ⟨rfl, rfl⟩
  rw [show Lib.contains (⟨#[48]⟩ : ByteArray).data.toList (⟨#[48, 35]⟩ : ByteArray).data.toList = false by decide +kernel]
  go_wp2_with fail
  refine (Tryz.strings_Contains ⟨#[48]⟩ ⟨#[44, 44]⟩ m1 _ (by decide) (unhide HM1)).mono ?_
  rintro e w3 ⟨rfl, rfl⟩
  rw [show Lib.contains (⟨#[48]⟩ : ByteArray).data.toList (⟨#[44, 44]⟩ : ByteArray).data.toList = false by decide +kernel]
  go_wp2_with fail
  refine (unhide HPr _).mono ?_
  rintro e w4 ⟨rfl, rfl⟩
  rw [show Lib.hasPrefix (⟨#[48]⟩ : ByteArray).data.toList (⟨#[44]⟩ : ByteArray).data.toList = false by decide +kernel]
  go_wp2_with fail
  refine (unhide HX _).mono ?_
  rintro e w5 ⟨rfl, rfl⟩
  rw [show Lib.hasSuffix (⟨#[48]⟩ : ByteArray).data.toList (⟨#[44]⟩ : ByteArray).data.toList = false by decide +kernel]
  go_wp2
  go_ret
  exact ⟨rfl, hb1⟩
set_option maxRecDepth 100000 in
set_option maxHeartbeats 1000000 in
theorem readLayout_a (w : World) (hm : MaxLenIs w) :
    Calls Tryz.prog 32 #[.string ⟨#[48, 46, 35, 35, 35, 35, 35, 35]⟩] w fun e w' => e = .returned (.tuple #[.agg #[.string ⟨#[]⟩, .string ⟨#[]⟩, .int .i64 1, .int .i64 0, .int .i64 6, .int .i64 0], .bool true]) ∧ Below w.heap.size w w' := by
  have HM := hide hm
  clear hm
  have HI := hide (fun w => Tryz.strings_IndexAny_laid ⟨#[48, 46, 35, 35, 35, 35, 35, 35]⟩ ⟨#[35, 48, 44, 46, 59, 37]⟩ w (by decide) (by decide) (ascii_of _ (by decide)) (ascii_of _ (by decide)))
  have HT := hide (fun w => Any.strings_TrimLeft_laid Tryz.lays161 (by kernel_rfl) ⟨#[48, 46, 35, 35, 35, 35, 35, 35]⟩ ⟨#[35, 48, 44, 46]⟩ w (by decide) (ascii_of _ (by decide)))
  have HC := hide (fun w => Tryz.strings_ContainsAny_laid ⟨#[48, 46, 35, 35, 35, 35, 35, 35]⟩ ⟨#[35, 48]⟩ w (by decide) (by decide) (ascii_of _ (by decide)) (ascii_of _ (by decide)))
  go_enter Tryz.func32, Tryz.ntmps32
  go_wp2_with fail
  refine (unhide HI _).mono ?_
  rintro e w1 ⟨rfl, hb1⟩
  rw [show Lib.indexAny (⟨#[48, 46, 35, 35, 35, 35, 35, 35]⟩ : ByteArray).data.toList (⟨#[35, 48, 44, 46, 59, 37]⟩ : ByteArray).data.toList = 0 by decide +kernel]
  go_wp2_with fail
  rw [show (⟨#[48, 46, 35, 35, 35, 35, 35, 35]⟩ : ByteArray).extract 0 8 = ⟨#[48, 46, 35, 35, 35, 35, 35, 35]⟩ by decide +kernel]
  refine (unhide HT _).mono ?_
  rintro e w2 ⟨rfl, hb2⟩
  rw [show Lib.trimLeftS (⟨#[48, 46, 35, 35, 35, 35, 35, 35]⟩ : ByteArray).data.toList (⟨#[35, 48, 44, 46]⟩ : ByteArray).data.toList = [] by decide +kernel]
  have hb02 := Below.then hb1 hb2
  have hb00 : Below w.heap.size w (w.alloc (.cells #[.string ⟨#[]⟩, .string ⟨#[]⟩, .int .i64 0, .int .i64 0, .int .i64 0, .int .i64 0] 40)) := by
    (repeat first | exact Below.refl _ _ | assumption | refine Below.drew ?_ | refine Below.alloc ?_ (by simp <;> omega) _ | refine Below.setCell ?_ (by simp <;> omega) _)
  obtain ⟨m2, hm2⟩ := (unhide HM).below (Below.then hb00 hb02)
  have HM2 := hide hm2
  clear hm2
  go_wp2_with fail
  rw [show (⟨#[48, 46, 35, 35, 35, 35, 35, 35]⟩ : ByteArray).extract 0 8 = ⟨#[48, 46, 35, 35, 35, 35, 35, 35]⟩ by decide +kernel]
  refine (Tryz.strings_Cut ⟨#[48, 46, 35, 35, 35, 35, 35, 35]⟩ ⟨#[46]⟩ m2 _ (by decide) (unhide HM2)).mono ?_
  rintro e w3 ⟨rfl, n3, rfl⟩
  rw [show Lib.cut (⟨#[48, 46, 35, 35, 35, 35, 35, 35]⟩ : ByteArray).data.toList (⟨#[46]⟩ : ByteArray).data.toList = ([48], [35, 35, 35, 35, 35, 35], true) by decide +kernel]
  go_wp2_with fail
  refine (isTail_live _).mono ?_
  rintro e w4 ⟨rfl, hb4⟩
  have hb04 : Below w2.heap.size w2 w4 := Below.then (bel_drewN (Below.refl _ _) n3) hb4
  go_wp2_with fail
  refine (isWhole_a _ ((unhide HM).below (Below.then hb00 (Below.then hb02 hb04)))).mono ?_
  rintro e w5 ⟨rfl, hb5⟩
  have hb05 := Below.then hb04 hb5
  go_wp2_with fail
  refine (isRest_6 _ ((unhide HM).below (Below.then hb00 (Below.then hb02 hb05)))).mono ?_
  rintro e w6 ⟨rfl, hb6⟩
  have hb06 := Below.then hb05 hb6
  go_wp2_with fail
  refine (unhide HC _).mono ?_
  rintro e w7 ⟨rfl, hb7⟩
  have hb07 := Below.then (Below.then hb02 hb06) hb7
  rw [show Lib.containsAny (⟨#[48, 46, 35, 35, 35, 35, 35, 35]⟩ : ByteArray).data.toList (⟨#[35, 48]⟩ : ByteArray).data.toList = true by decide +kernel]
  have hl := (LayAt.new w).below hb07
  have hfin := Below.then hb00 hb07
  obtain ⟨c0, c1, c2, c3, c4, c5, o0, o1, o2, o3, o4, o5⟩ := hl
  clear hb1 hb2 hb02 hb4 hb04 hb5 hb05 hb6 hb06 hb7 hb07 hb00 HI HT HC HM HM2
  have HC1 := hide (fun w => Tryz.strings_Count_one ⟨#[48]⟩ 48 w)
  have HC2 := hide (fun w => Tryz.strings_Count_one ⟨#[35, 35, 35, 35, 35, 35]⟩ 48 w)
  have E1 := hide (show Lib.countByte (⟨#[48]⟩ : ByteArray).data.toList 48 = 1 by decide +kernel)
  have E2 := hide (show Lib.countByte (⟨#[35, 35, 35, 35, 35, 35]⟩ : ByteArray).data.toList 48 = 0 by decide +kernel)
  go_wp2_with fail
  go_region_held3 (fun _ => True) (exact trivial)
    (first
      | (go_at_call_of 58 (Value.string ⟨#[35, 35, 35, 35, 35, 35]⟩); refine (unhide HC2 _).mono ?_; rintro e w' ⟨rfl, rfl⟩; rw [unhide E2])
      | (go_at_call_of 58 (Value.string ⟨#[48]⟩); refine (unhide HC1 _).mono ?_; rintro e w' ⟨rfl, rfl⟩; rw [unhide E1])
      | (go_at_call 59; refine (groupOf_a _).mono ?_; rintro e w' ⟨rfl, rfl⟩))
  go_wp2
  clear HC1 HC2 E1 E2
  have hL := (LayAt.put (w := w7) (b := w.heap.size) ⟨c0, c1, c2, c3, c4, c5, o0, o1, o2, o3, o4, o5⟩ ⟨#[]⟩ ⟨#[]⟩ 1 0 6 0).drewN 1
  have hB : Below w.heap.size w ((putL w7 w.heap.size ⟨#[]⟩ ⟨#[]⟩ 1 0 6 0).drewN 1) := by
    exact bel_drewN (putL_below hfin (Nat.le_refl _) _ _ _ _ _ _) 1
  clear c0 c1 c2 c3 c4 c5 o0 o1 o2 o3 o4 o5
  have he : ((putL w7 w.heap.size ⟨#[]⟩ ⟨#[]⟩ 1 0 6 0).drewN 1) = ((putL w7 w.heap.size ⟨#[]⟩ ⟨#[]⟩ 1 0 6 0).drew) := rfl
  rw [he] at hL hB
  show bodyPost _ _ _ _ _ ((putL w7 w.heap.size ⟨#[]⟩ ⟨#[]⟩ 1 0 6 0).drew)
  generalize (putL w7 w.heap.size ⟨#[]⟩ ⟨#[]⟩ 1 0 6 0).drew = W at hL hB ⊢
  clear he hfin
  obtain ⟨c0, c1, c2, c3, c4, c5, _, _, _, _, _, _⟩ := hL
  refine bodyPost_ret (v := .tuple #[.agg #[.string ⟨#[]⟩, .string ⟨#[]⟩, .int .i64 1, .int .i64 0, .int .i64 6, .int .i64 0], .bool true]) ?_ rfl ⟨rfl, hB⟩
  simp [results, Tryz.results32, go_sem, c0, c1, c2, c3, c4, c5]
set_option maxRecDepth 100000 in
set_option maxHeartbeats 1000000 in
theorem readLayout_b (w : World) (hm : MaxLenIs w) :
    Calls Tryz.prog 32 #[.string ⟨#[35, 44, 35, 35, 48, 46, 35, 35, 35, 35, 35, 35]⟩] w fun e w' => e = .returned (.tuple #[.agg #[.string ⟨#[]⟩, .string ⟨#[]⟩, .int .i64 1, .int .i64 0, .int .i64 6, .int .i64 3], .bool true]) ∧ Below w.heap.size w w' := by
  have HM := hide hm
  clear hm
  have HI := hide (fun w => Tryz.strings_IndexAny_laid ⟨#[35, 44, 35, 35, 48, 46, 35, 35, 35, 35, 35, 35]⟩ ⟨#[35, 48, 44, 46, 59, 37]⟩ w (by decide) (by decide) (ascii_of _ (by decide)) (ascii_of _ (by decide)))
  have HT := hide (fun w => Any.strings_TrimLeft_laid Tryz.lays161 (by kernel_rfl) ⟨#[35, 44, 35, 35, 48, 46, 35, 35, 35, 35, 35, 35]⟩ ⟨#[35, 48, 44, 46]⟩ w (by decide) (ascii_of _ (by decide)))
  have HC := hide (fun w => Tryz.strings_ContainsAny_laid ⟨#[35, 44, 35, 35, 48, 46, 35, 35, 35, 35, 35, 35]⟩ ⟨#[35, 48]⟩ w (by decide) (by decide) (ascii_of _ (by decide)) (ascii_of _ (by decide)))
  go_enter Tryz.func32, Tryz.ntmps32
  go_wp2_with fail
  refine (unhide HI _).mono ?_
  rintro e w1 ⟨rfl, hb1⟩
  rw [show Lib.indexAny (⟨#[35, 44, 35, 35, 48, 46, 35, 35, 35, 35, 35, 35]⟩ : ByteArray).data.toList (⟨#[35, 48, 44, 46, 59, 37]⟩ : ByteArray).data.toList = 0 by decide +kernel]
  go_wp2_with fail
  rw [show (⟨#[35, 44, 35, 35, 48, 46, 35, 35, 35, 35, 35, 35]⟩ : ByteArray).extract 0 12 = ⟨#[35, 44, 35, 35, 48, 46, 35, 35, 35, 35, 35, 35]⟩ by decide +kernel]
  refine (unhide HT _).mono ?_
  rintro e w2 ⟨rfl, hb2⟩
  rw [show Lib.trimLeftS (⟨#[35, 44, 35, 35, 48, 46, 35, 35, 35, 35, 35, 35]⟩ : ByteArray).data.toList (⟨#[35, 48, 44, 46]⟩ : ByteArray).data.toList = [] by decide +kernel]
  have hb02 := Below.then hb1 hb2
  have hb00 : Below w.heap.size w (w.alloc (.cells #[.string ⟨#[]⟩, .string ⟨#[]⟩, .int .i64 0, .int .i64 0, .int .i64 0, .int .i64 0] 40)) := by
    (repeat first | exact Below.refl _ _ | assumption | refine Below.drew ?_ | refine Below.alloc ?_ (by simp <;> omega) _ | refine Below.setCell ?_ (by simp <;> omega) _)
  obtain ⟨m2, hm2⟩ := (unhide HM).below (Below.then hb00 hb02)
  have HM2 := hide hm2
  clear hm2
  go_wp2_with fail
  rw [show (⟨#[35, 44, 35, 35, 48, 46, 35, 35, 35, 35, 35, 35]⟩ : ByteArray).extract 0 12 = ⟨#[35, 44, 35, 35, 48, 46, 35, 35, 35, 35, 35, 35]⟩ by decide +kernel]
  refine (Tryz.strings_Cut ⟨#[35, 44, 35, 35, 48, 46, 35, 35, 35, 35, 35, 35]⟩ ⟨#[46]⟩ m2 _ (by decide) (unhide HM2)).mono ?_
  rintro e w3 ⟨rfl, n3, rfl⟩
  rw [show Lib.cut (⟨#[35, 44, 35, 35, 48, 46, 35, 35, 35, 35, 35, 35]⟩ : ByteArray).data.toList (⟨#[46]⟩ : ByteArray).data.toList = ([35, 44, 35, 35, 48], [35, 35, 35, 35, 35, 35], true) by decide +kernel]
  go_wp2_with fail
  refine (isTail_live _).mono ?_
  rintro e w4 ⟨rfl, hb4⟩
  have hb04 : Below w2.heap.size w2 w4 := Below.then (bel_drewN (Below.refl _ _) n3) hb4
  go_wp2_with fail
  refine (isWhole_live _ ((unhide HM).below (Below.then hb00 (Below.then hb02 hb04)))).mono ?_
  rintro e w5 ⟨rfl, hb5⟩
  have hb05 := Below.then hb04 hb5
  go_wp2_with fail
  refine (isRest_6 _ ((unhide HM).below (Below.then hb00 (Below.then hb02 hb05)))).mono ?_
  rintro e w6 ⟨rfl, hb6⟩
  have hb06 := Below.then hb05 hb6
  go_wp2_with fail
  refine (unhide HC _).mono ?_
  rintro e w7 ⟨rfl, hb7⟩
  have hb07 := Below.then (Below.then hb02 hb06) hb7
  rw [show Lib.containsAny (⟨#[35, 44, 35, 35, 48, 46, 35, 35, 35, 35, 35, 35]⟩ : ByteArray).data.toList (⟨#[35, 48]⟩ : ByteArray).data.toList = true by decide +kernel]
  have hl := (LayAt.new w).below hb07
  have hfin := Below.then hb00 hb07
  obtain ⟨c0, c1, c2, c3, c4, c5, o0, o1, o2, o3, o4, o5⟩ := hl
  clear hb1 hb2 hb02 hb4 hb04 hb5 hb05 hb6 hb06 hb7 hb07 hb00 HI HT HC HM HM2
  have HC1 := hide (fun w => Tryz.strings_Count_one ⟨#[35, 44, 35, 35, 48]⟩ 48 w)
  have HC2 := hide (fun w => Tryz.strings_Count_one ⟨#[35, 35, 35, 35, 35, 35]⟩ 48 w)
  have E1 := hide (show Lib.countByte (⟨#[35, 44, 35, 35, 48]⟩ : ByteArray).data.toList 48 = 1 by decide +kernel)
  have E2 := hide (show Lib.countByte (⟨#[35, 35, 35, 35, 35, 35]⟩ : ByteArray).data.toList 48 = 0 by decide +kernel)
  go_wp2_with fail
  go_region_held3 (fun _ => True) (exact trivial)
    (first
      | (go_at_call_of 58 (Value.string ⟨#[35, 44, 35, 35, 48]⟩); refine (unhide HC1 _).mono ?_; rintro e w' ⟨rfl, rfl⟩; rw [unhide E1])
      | (go_at_call_of 58 (Value.string ⟨#[35, 35, 35, 35, 35, 35]⟩); refine (unhide HC2 _).mono ?_; rintro e w' ⟨rfl, rfl⟩; rw [unhide E2])
      | (go_at_call 59; refine (groupOf_live _).mono ?_; rintro e w' ⟨rfl, rfl⟩))
  go_wp2
  clear HC1 HC2 E1 E2
  have hL := (LayAt.put (w := w7) (b := w.heap.size) ⟨c0, c1, c2, c3, c4, c5, o0, o1, o2, o3, o4, o5⟩ ⟨#[]⟩ ⟨#[]⟩ 1 0 6 3).drewN 1
  have hB : Below w.heap.size w ((putL w7 w.heap.size ⟨#[]⟩ ⟨#[]⟩ 1 0 6 3).drewN 1) := by
    exact bel_drewN (putL_below hfin (Nat.le_refl _) _ _ _ _ _ _) 1
  clear c0 c1 c2 c3 c4 c5 o0 o1 o2 o3 o4 o5
  have he : ((putL w7 w.heap.size ⟨#[]⟩ ⟨#[]⟩ 1 0 6 3).drewN 1) = ((putL w7 w.heap.size ⟨#[]⟩ ⟨#[]⟩ 1 0 6 3).drew) := rfl
  rw [he] at hL hB
  show bodyPost _ _ _ _ _ ((putL w7 w.heap.size ⟨#[]⟩ ⟨#[]⟩ 1 0 6 3).drew)
  generalize (putL w7 w.heap.size ⟨#[]⟩ ⟨#[]⟩ 1 0 6 3).drew = W at hL hB ⊢
  clear he hfin
  obtain ⟨c0, c1, c2, c3, c4, c5, _, _, _, _, _, _⟩ := hL
  refine bodyPost_ret (v := .tuple #[.agg #[.string ⟨#[]⟩, .string ⟨#[]⟩, .int .i64 1, .int .i64 0, .int .i64 6, .int .i64 3], .bool true]) ?_ rfl ⟨rfl, hB⟩
  simp [results, Tryz.results32, go_sem, c0, c1, c2, c3, c4, c5]
set_option maxRecDepth 100000 in
set_option maxHeartbeats 1000000 in
theorem readPicture_a (w : World) (hE : NumEnv w) :
    Calls Tryz.prog 15 #[.string ⟨#[48, 46, 35, 35, 35, 35, 35, 35]⟩] w fun e w' => e = .returned (.tuple #[.agg #[.string ⟨#[]⟩, .string ⟨#[]⟩, .int .i64 1, .int .i64 0, .int .i64 6, .int .i64 0], .agg #[.string ⟨#[45]⟩, .string ⟨#[]⟩, .int .i64 0, .int .i64 0, .int .i64 0, .int .i64 0], .bool true]) ∧ Below w.heap.size w w' := by
  have HE := hide hE
  clear hE
  go_enter Tryz.func15, Tryz.ntmps15
  go_wp2_with fail
  have hb0 : Below w.heap.size w ((w.alloc (.cells #[.string ⟨#[]⟩, .string ⟨#[]⟩, .int .i64 0, .int .i64 0, .int .i64 0, .int .i64 0] 40)).alloc (.cells #[.string ⟨#[]⟩, .string ⟨#[]⟩, .int .i64 0, .int .i64 0, .int .i64 0, .int .i64 0] 40)) := by
    (repeat first | exact Below.refl _ _ | assumption | refine Below.drew ?_ | refine Below.alloc ?_ (by simp <;> omega) _ | refine Below.setCell ?_ (by simp <;> omega) _)
  have hl0 : LayAt ((w.alloc (.cells #[.string ⟨#[]⟩, .string ⟨#[]⟩, .int .i64 0, .int .i64 0, .int .i64 0, .int .i64 0] 40)).alloc (.cells #[.string ⟨#[]⟩, .string ⟨#[]⟩, .int .i64 0, .int .i64 0, .int .i64 0, .int .i64 0] 40)) w.heap.size ⟨#[]⟩ ⟨#[]⟩ 0 0 0 0 := (LayAt.new w).below (by (repeat first | exact Below.refl _ _ | assumption | refine Below.drew ?_ | refine Below.alloc ?_ (by simp <;> omega) _ | refine Below.setCell ?_ (by simp <;> omega) _))
  have hl1 : LayAt ((w.alloc (.cells #[.string ⟨#[]⟩, .string ⟨#[]⟩, .int .i64 0, .int .i64 0, .int .i64 0, .int .i64 0] 40)).alloc (.cells #[.string ⟨#[]⟩, .string ⟨#[]⟩, .int .i64 0, .int .i64 0, .int .i64 0, .int .i64 0] 40)) (w.heap.size + 1) ⟨#[]⟩ ⟨#[]⟩ 0 0 0 0 := by
    have := LayAt.new (w.alloc (.cells #[.string ⟨#[]⟩, .string ⟨#[]⟩, .int .i64 0, .int .i64 0, .int .i64 0, .int .i64 0] 40))
    simpa using this
  refine (Any.utf8_ValidString Tryz.laysValid ⟨#[48, 46, 35, 35, 35, 35, 35, 35]⟩ _ (by decide) ((unhide HE).below hb0).tabs).mono ?_
  rintro e w1 ⟨rfl, hb1⟩
  rw [show Lib.validD (⟨#[48, 46, 35, 35, 35, 35, 35, 35]⟩ : ByteArray).data.toList = true by decide +kernel]
  have hl0' := hl0.below hb1
  have hl1' := hl1.below hb1
  have hb01 := Below.then hb0 hb1
  clear hl0 hl1 hb0 hb1
  obtain ⟨m, hm⟩ := ((unhide HE).below hb01).len
  have HM := hide hm
  have HL0 := hide hl0'
  have HL1 := hide hl1'
  clear hm hl0' hl1'
  go_wp2_with fail
  refine (Tryz.strings_Cut ⟨#[48, 46, 35, 35, 35, 35, 35, 35]⟩ ⟨#[59]⟩ m _ (by decide) (unhide HM)).mono ?_
  rintro e w2 ⟨rfl, n2, rfl⟩
  rw [show Lib.cut (⟨#[48, 46, 35, 35, 35, 35, 35, 35]⟩ : ByteArray).data.toList (⟨#[59]⟩ : ByteArray).data.toList = ([48, 46, 35, 35, 35, 35, 35, 35], [], false) by decide +kernel]
  have hb02 : Below w.heap.size w (w1.drewN n2) := bel_drewN hb01 n2
  go_wp2_with fail
  refine (readLayout_a _ ((unhide HE).below hb02).len).mono ?_
  rintro e w3 ⟨rfl, hb3⟩
  have hl0 := ((unhide HL0).drewN n2).below hb3
  have hl1 := ((unhide HL1).drewN n2).below hb3
  have hb03 := Below.then hb02 hb3
  have h01 := block_lt_of_cell hl1.c0
  clear HL0 HL1 HM
  have HL1 := hide hl1
  have hl0p := hl0.put ⟨#[]⟩ ⟨#[]⟩ 1 0 6 0
  obtain ⟨c0, c1, c2, c3, c4, c5, o0, o1, o2, o3, o4, o5⟩ := hl0
  go_upto_region 5 with fail
  refine wp_named ?_
  intro W hW
  have hl0 : LayAt W w.heap.size ⟨#[]⟩ ⟨#[]⟩ 1 0 6 0 := by rw [hW]; exact hl0p
  have hl1 : LayAt W (w.heap.size + 1) ⟨#[]⟩ ⟨#[]⟩ 0 0 0 0 := by rw [hW]; exact (unhide HL1).keep (by omega) _ _ _ _ _ _
  have hbW : Below w.heap.size w W := by rw [hW]; exact putL_below hb03 (Nat.le_refl _) _ _ _ _ _ _
  clear hW hb3 hb02 hb01 hb03 h01 hl0p HL1 c0 c1 c2 c3 c4 c5 o0 o1 o2 o3 o4 o5
  have HL0 := hide hl0
  have HL1 := hide hl1
  obtain ⟨c0, c1, c2, c3, c4, c5, o0, o1, o2, o3, o4, o5⟩ := hl0
  obtain ⟨d0, d1, d2, d3, d4, d5, p0, p1, p2, p3, p4, p5⟩ := hl1
  go_upto_region 8 with fail
  go_wp2_with fail
  have hr0 := ((unhide HL0).put ⟨#[]⟩ ⟨#[]⟩ 1 0 6 0).keep (b' := w.heap.size + 1) (by omega) ⟨#[45]⟩ ⟨#[]⟩ 0 0 0 0
  have hr1 := ((unhide HL1).keep (b' := w.heap.size) (by omega) ⟨#[]⟩ ⟨#[]⟩ 1 0 6 0).put ⟨#[45]⟩ ⟨#[]⟩ 0 0 0 0
  have hbX := putL_below (putL_below hbW (Nat.le_refl _) ⟨#[]⟩ ⟨#[]⟩ 1 0 6 0) (show w.heap.size ≤ w.heap.size + 1 by omega) ⟨#[45]⟩ ⟨#[]⟩ 0 0 0 0
  show bodyPost _ _ _ _ _ (putL (putL W w.heap.size ⟨#[]⟩ ⟨#[]⟩ 1 0 6 0) (w.heap.size + 1) ⟨#[45]⟩ ⟨#[]⟩ 0 0 0 0)
  generalize putL (putL W w.heap.size ⟨#[]⟩ ⟨#[]⟩ 1 0 6 0) (w.heap.size + 1) ⟨#[45]⟩ ⟨#[]⟩ 0 0 0 0 = X at hr0 hr1 hbX ⊢
  clear HL0 HL1 c0 c1 c2 c3 c4 c5 o0 o1 o2 o3 o4 o5 d0 d1 d2 d3 d4 d5 p0 p1 p2 p3 p4 p5
  obtain ⟨c0, c1, c2, c3, c4, c5, _, _, _, _, _, _⟩ := hr0
  obtain ⟨d0, d1, d2, d3, d4, d5, _, _, _, _, _, _⟩ := hr1
  refine bodyPost_ret (v := .tuple #[.agg #[.string ⟨#[]⟩, .string ⟨#[]⟩, .int .i64 1, .int .i64 0, .int .i64 6, .int .i64 0], .agg #[.string ⟨#[45]⟩, .string ⟨#[]⟩, .int .i64 0, .int .i64 0, .int .i64 0, .int .i64 0], .bool true]) ?_ rfl ⟨rfl, hbX⟩
  simp [results, Tryz.results15, go_sem, c0, c1, c2, c3, c4, c5, d0, d1, d2, d3, d4, d5]
set_option maxRecDepth 100000 in
set_option maxHeartbeats 1000000 in
theorem readPicture_b (w : World) (hE : NumEnv w) :
    Calls Tryz.prog 15 #[.string ⟨#[35, 44, 35, 35, 48, 46, 35, 35, 35, 35, 35, 35]⟩] w fun e w' => e = .returned (.tuple #[.agg #[.string ⟨#[]⟩, .string ⟨#[]⟩, .int .i64 1, .int .i64 0, .int .i64 6, .int .i64 3], .agg #[.string ⟨#[45]⟩, .string ⟨#[]⟩, .int .i64 0, .int .i64 0, .int .i64 0, .int .i64 0], .bool true]) ∧ Below w.heap.size w w' := by
  have HE := hide hE
  clear hE
  go_enter Tryz.func15, Tryz.ntmps15
  go_wp2_with fail
  have hb0 : Below w.heap.size w ((w.alloc (.cells #[.string ⟨#[]⟩, .string ⟨#[]⟩, .int .i64 0, .int .i64 0, .int .i64 0, .int .i64 0] 40)).alloc (.cells #[.string ⟨#[]⟩, .string ⟨#[]⟩, .int .i64 0, .int .i64 0, .int .i64 0, .int .i64 0] 40)) := by
    (repeat first | exact Below.refl _ _ | assumption | refine Below.drew ?_ | refine Below.alloc ?_ (by simp <;> omega) _ | refine Below.setCell ?_ (by simp <;> omega) _)
  have hl0 : LayAt ((w.alloc (.cells #[.string ⟨#[]⟩, .string ⟨#[]⟩, .int .i64 0, .int .i64 0, .int .i64 0, .int .i64 0] 40)).alloc (.cells #[.string ⟨#[]⟩, .string ⟨#[]⟩, .int .i64 0, .int .i64 0, .int .i64 0, .int .i64 0] 40)) w.heap.size ⟨#[]⟩ ⟨#[]⟩ 0 0 0 0 := (LayAt.new w).below (by (repeat first | exact Below.refl _ _ | assumption | refine Below.drew ?_ | refine Below.alloc ?_ (by simp <;> omega) _ | refine Below.setCell ?_ (by simp <;> omega) _))
  have hl1 : LayAt ((w.alloc (.cells #[.string ⟨#[]⟩, .string ⟨#[]⟩, .int .i64 0, .int .i64 0, .int .i64 0, .int .i64 0] 40)).alloc (.cells #[.string ⟨#[]⟩, .string ⟨#[]⟩, .int .i64 0, .int .i64 0, .int .i64 0, .int .i64 0] 40)) (w.heap.size + 1) ⟨#[]⟩ ⟨#[]⟩ 0 0 0 0 := by
    have := LayAt.new (w.alloc (.cells #[.string ⟨#[]⟩, .string ⟨#[]⟩, .int .i64 0, .int .i64 0, .int .i64 0, .int .i64 0] 40))
    simpa using this
  refine (Any.utf8_ValidString Tryz.laysValid ⟨#[35, 44, 35, 35, 48, 46, 35, 35, 35, 35, 35, 35]⟩ _ (by decide) ((unhide HE).below hb0).tabs).mono ?_
  rintro e w1 ⟨rfl, hb1⟩
  rw [show Lib.validD (⟨#[35, 44, 35, 35, 48, 46, 35, 35, 35, 35, 35, 35]⟩ : ByteArray).data.toList = true by decide +kernel]
  have hl0' := hl0.below hb1
  have hl1' := hl1.below hb1
  have hb01 := Below.then hb0 hb1
  clear hl0 hl1 hb0 hb1
  obtain ⟨m, hm⟩ := ((unhide HE).below hb01).len
  have HM := hide hm
  have HL0 := hide hl0'
  have HL1 := hide hl1'
  clear hm hl0' hl1'
  go_wp2_with fail
  refine (Tryz.strings_Cut ⟨#[35, 44, 35, 35, 48, 46, 35, 35, 35, 35, 35, 35]⟩ ⟨#[59]⟩ m _ (by decide) (unhide HM)).mono ?_
  rintro e w2 ⟨rfl, n2, rfl⟩
  rw [show Lib.cut (⟨#[35, 44, 35, 35, 48, 46, 35, 35, 35, 35, 35, 35]⟩ : ByteArray).data.toList (⟨#[59]⟩ : ByteArray).data.toList = ([35, 44, 35, 35, 48, 46, 35, 35, 35, 35, 35, 35], [], false) by decide +kernel]
  have hb02 : Below w.heap.size w (w1.drewN n2) := bel_drewN hb01 n2
  go_wp2_with fail
  refine (readLayout_b _ ((unhide HE).below hb02).len).mono ?_
  rintro e w3 ⟨rfl, hb3⟩
  have hl0 := ((unhide HL0).drewN n2).below hb3
  have hl1 := ((unhide HL1).drewN n2).below hb3
  have hb03 := Below.then hb02 hb3
  have h01 := block_lt_of_cell hl1.c0
  clear HL0 HL1 HM
  have HL1 := hide hl1
  have hl0p := hl0.put ⟨#[]⟩ ⟨#[]⟩ 1 0 6 3
  obtain ⟨c0, c1, c2, c3, c4, c5, o0, o1, o2, o3, o4, o5⟩ := hl0
  go_upto_region 5 with fail
  refine wp_named ?_
  intro W hW
  have hl0 : LayAt W w.heap.size ⟨#[]⟩ ⟨#[]⟩ 1 0 6 3 := by rw [hW]; exact hl0p
  have hl1 : LayAt W (w.heap.size + 1) ⟨#[]⟩ ⟨#[]⟩ 0 0 0 0 := by rw [hW]; exact (unhide HL1).keep (by omega) _ _ _ _ _ _
  have hbW : Below w.heap.size w W := by rw [hW]; exact putL_below hb03 (Nat.le_refl _) _ _ _ _ _ _
  clear hW hb3 hb02 hb01 hb03 h01 hl0p HL1 c0 c1 c2 c3 c4 c5 o0 o1 o2 o3 o4 o5
  have HL0 := hide hl0
  have HL1 := hide hl1
  obtain ⟨c0, c1, c2, c3, c4, c5, o0, o1, o2, o3, o4, o5⟩ := hl0
  obtain ⟨d0, d1, d2, d3, d4, d5, p0, p1, p2, p3, p4, p5⟩ := hl1
  go_upto_region 8 with fail
  go_wp2_with fail
  have hr0 := ((unhide HL0).put ⟨#[]⟩ ⟨#[]⟩ 1 0 6 3).keep (b' := w.heap.size + 1) (by omega) ⟨#[45]⟩ ⟨#[]⟩ 0 0 0 0
  have hr1 := ((unhide HL1).keep (b' := w.heap.size) (by omega) ⟨#[]⟩ ⟨#[]⟩ 1 0 6 3).put ⟨#[45]⟩ ⟨#[]⟩ 0 0 0 0
  have hbX := putL_below (putL_below hbW (Nat.le_refl _) ⟨#[]⟩ ⟨#[]⟩ 1 0 6 3) (show w.heap.size ≤ w.heap.size + 1 by omega) ⟨#[45]⟩ ⟨#[]⟩ 0 0 0 0
  show bodyPost _ _ _ _ _ (putL (putL W w.heap.size ⟨#[]⟩ ⟨#[]⟩ 1 0 6 3) (w.heap.size + 1) ⟨#[45]⟩ ⟨#[]⟩ 0 0 0 0)
  generalize putL (putL W w.heap.size ⟨#[]⟩ ⟨#[]⟩ 1 0 6 3) (w.heap.size + 1) ⟨#[45]⟩ ⟨#[]⟩ 0 0 0 0 = X at hr0 hr1 hbX ⊢
  clear HL0 HL1 c0 c1 c2 c3 c4 c5 o0 o1 o2 o3 o4 o5 d0 d1 d2 d3 d4 d5 p0 p1 p2 p3 p4 p5
  obtain ⟨c0, c1, c2, c3, c4, c5, _, _, _, _, _, _⟩ := hr0
  obtain ⟨d0, d1, d2, d3, d4, d5, _, _, _, _, _, _⟩ := hr1
  refine bodyPost_ret (v := .tuple #[.agg #[.string ⟨#[]⟩, .string ⟨#[]⟩, .int .i64 1, .int .i64 0, .int .i64 6, .int .i64 3], .agg #[.string ⟨#[45]⟩, .string ⟨#[]⟩, .int .i64 0, .int .i64 0, .int .i64 0, .int .i64 0], .bool true]) ?_ rfl ⟨rfl, hbX⟩
  simp [results, Tryz.results15, go_sem, c0, c1, c2, c3, c4, c5, d0, d1, d2, d3, d4, d5]
end Go.Proofs.YtndoodiimjkojaaGreatDoor
