/- A picture's parts, at live's picture: xnum's isTail, isRest, isWhole and groupOf. -/
import Derived.Test.YtnpdjddebeipiaaGreatDoorNumSmall
import Derived.Test.YtnpdjddebeipiaaGreatDoorShelf
namespace Go.Proofs.YtnpdjddebeipiaaGreatDoor
open Go.RowKit
/-- The library's MaxLen holds an int. -/
def MaxLenIs (w : World) : Prop := ∃ m, w.cell? ⟨5, 0, none⟩ = some (.int .i64 m)
theorem MaxLenIs.below {w w' : World} (h : MaxLenIs w) (hb : Below w.heap.size w w') : MaxLenIs w' := by
  obtain ⟨m, hm⟩ := h
  exact ⟨m, kept_cell hb hm⟩
set_option maxHeartbeats 1000000 in
theorem groupOf_live (w : World) :
    Calls Tryz.prog 69 #[.string ⟨#[35, 44, 35, 35, 48]⟩] w fun e w' => e = .returned (.int .i64 3) ∧ w' = w := by
  have HL := hide (fun w => Tryz.strings_LastIndex_one ⟨#[35, 44, 35, 35, 48]⟩ ⟨#[44]⟩ rfl (by decide) w)
  go_enter Tryz.func69, Tryz.ntmps69
  go_wp2_with fail
  refine (unhide HL _).mono ?_
  rintro e w1 ⟨rfl, rfl⟩
  rw [show Lib.lastIndexByte ⟨#[35, 44, 35, 35, 48]⟩ ((⟨#[44]⟩ : ByteArray)[0]'(by decide)).toNat = 1 by decide +kernel]
  go_wp2
  go_ret
  exact ⟨rfl, rfl⟩
theorem ascii_of (l : List UInt8) (h : l.all (fun b => decide (b.toNat < 128)) = true) : ∀ (j : Nat) b, l[j]? = some b → b.toNat < 128 := by
  intro j b hj
  have := List.all_eq_true.1 h b (List.mem_of_getElem? hj)
  exact of_decide_eq_true this
set_option maxHeartbeats 1000000 in
theorem isTail_live (w : World) :
    Calls Tryz.prog 64 #[.string ⟨#[]⟩] w fun e w' => e = .returned (.bool true) ∧ Below w.heap.size w w' := by
  have HA := hide (fun w => Tryz.strings_ContainsAny_laid ⟨#[]⟩ ⟨#[35, 48, 44, 46, 59]⟩ w (by decide) (by decide) (ascii_of _ (by decide)) (ascii_of _ (by decide)))
  have HC := hide (fun w => Tryz.strings_Count_one ⟨#[]⟩ 37 w)
  go_enter Tryz.func64, Tryz.ntmps64
  go_wp2_with fail
  refine (unhide HA _).mono ?_
  rintro e w1 ⟨rfl, hb1⟩
  rw [show Lib.containsAny (⟨#[]⟩ : ByteArray).data.toList (⟨#[35, 48, 44, 46, 59]⟩ : ByteArray).data.toList = false by decide +kernel]
  go_wp2_with fail
  refine (unhide HC _).mono ?_
  rintro e w2 ⟨rfl, rfl⟩
  rw [show Lib.countByte (⟨#[]⟩ : ByteArray).data.toList 37 = 0 by decide +kernel]
  go_wp2
  go_ret
  exact ⟨rfl, hb1⟩
set_option maxHeartbeats 1000000 in
theorem isRest_live (w : World) (hm : MaxLenIs w) :
    Calls Tryz.prog 66 #[.string ⟨#[48, 48]⟩] w fun e w' => e = .returned (.bool true) ∧ Below w.heap.size w w' := by
  have HM := hide hm
  clear hm
  have HA := hide (fun w => Tryz.strings_ContainsAny_laid ⟨#[48, 48]⟩ ⟨#[44, 46]⟩ w (by decide) (by decide) (ascii_of _ (by decide)) (ascii_of _ (by decide)))
  go_enter Tryz.func66, Tryz.ntmps66
  go_wp2_with fail
  refine (unhide HA _).mono ?_
  rintro e w1 ⟨rfl, hb1⟩
  rw [show Lib.containsAny (⟨#[48, 48]⟩ : ByteArray).data.toList (⟨#[44, 46]⟩ : ByteArray).data.toList = false by decide +kernel]
  obtain ⟨m, hm1⟩ := (unhide HM).below hb1
  have HM1 := hide hm1
  clear hm1
  go_wp2_with fail
  refine (Tryz.strings_Contains ⟨#[48, 48]⟩ ⟨#[35, 48]⟩ m _ (by decide) (unhide HM1)).mono ?_
  rintro e w2 ⟨rfl, rfl⟩
  rw [show Lib.contains (⟨#[48, 48]⟩ : ByteArray).data.toList (⟨#[35, 48]⟩ : ByteArray).data.toList = false by decide +kernel]
  go_wp2
  go_ret
  exact ⟨rfl, hb1⟩
set_option maxHeartbeats 1000000 in
theorem isWhole_live (w : World) (hm : MaxLenIs w) :
    Calls Tryz.prog 65 #[.string ⟨#[35, 44, 35, 35, 48]⟩] w fun e w' => e = .returned (.bool true) ∧ Below w.heap.size w w' := by
  have HM := hide hm
  obtain ⟨m, hm0⟩ := hm
  have HM0 := hide hm0
  clear hm0
  have HX := hide (fun w => Tryz.strings_HasSuffix ⟨#[35, 44, 35, 35, 48]⟩ ⟨#[44]⟩ w (by decide))
  have HPr := hide (fun w => Tryz.strings_HasPrefix ⟨#[35, 44, 35, 35, 48]⟩ ⟨#[44]⟩ w)
  go_enter Tryz.func65, Tryz.ntmps65
  go_wp2_with fail
  refine (Tryz.strings_ReplaceAll ⟨#[35, 44, 35, 35, 48]⟩ ⟨#[44]⟩ ⟨#[]⟩ m _ (by decide) (unhide HM0) (by decide) (by decide +kernel)).mono ?_
  rintro e w1 ⟨rfl, hb1⟩
  rw [show Lib.replaceAll (⟨#[35, 44, 35, 35, 48]⟩ : ByteArray).data.toList (⟨#[44]⟩ : ByteArray).data.toList (⟨#[]⟩ : ByteArray).data.toList = [35, 35, 35, 48] by decide +kernel]
  obtain ⟨m1, hm1⟩ := (unhide HM).below hb1
  have HM1 := hide hm1
  clear hm1
  go_wp2_with fail
  refine (Tryz.strings_Contains ⟨#[35, 35, 35, 48]⟩ ⟨#[48, 35]⟩ m1 _ (by decide) (unhide HM1)).mono ?_
  rintro e w2 ⟨rfl, rfl⟩
  rw [show Lib.contains (⟨#[35, 35, 35, 48]⟩ : ByteArray).data.toList (⟨#[48, 35]⟩ : ByteArray).data.toList = false by decide +kernel]
  go_wp2_with fail
  refine (Tryz.strings_Contains ⟨#[35, 44, 35, 35, 48]⟩ ⟨#[44, 44]⟩ m1 _ (by decide) (unhide HM1)).mono ?_
  rintro e w3 ⟨rfl, rfl⟩
  rw [show Lib.contains (⟨#[35, 44, 35, 35, 48]⟩ : ByteArray).data.toList (⟨#[44, 44]⟩ : ByteArray).data.toList = false by decide +kernel]
  go_wp2_with fail
  refine (unhide HPr _).mono ?_
  rintro e w4 ⟨rfl, rfl⟩
  rw [show Lib.hasPrefix (⟨#[35, 44, 35, 35, 48]⟩ : ByteArray).data.toList (⟨#[44]⟩ : ByteArray).data.toList = false by decide +kernel]
  go_wp2_with fail
  refine (unhide HX _).mono ?_
  rintro e w5 ⟨rfl, rfl⟩
  rw [show Lib.hasSuffix (⟨#[35, 44, 35, 35, 48]⟩ : ByteArray).data.toList (⟨#[44]⟩ : ByteArray).data.toList = false by decide +kernel]
  go_wp2
  go_ret
  exact ⟨rfl, hb1⟩
end Go.Proofs.YtnpdjddebeipiaaGreatDoor
