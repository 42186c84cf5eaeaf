/- A number by a picture, at live's picture: xnum's readPicture, writeWhole, writeSize and Format. -/
import Derived.Test.YtnpdjddebeipiaaGreatDoorNumLay
import Derived.Test.YtnpdjddebeipiaaGreatDoorNumPart
import Derived.Test.YtnpdjddebeipiaaGreatDoorNumRound
import Derived.Test.YtnpdjddebeipiaaGreatDoorNumTextOf
import Derived.Test.YtnpdjddebeipiaaGreatDoorNumDiv
import Derived.Lib.ValidLaws
namespace Go.Proofs.YtnpdjddebeipiaaGreatDoor
open Go.RowKit
attribute [local go_sem ↓] Go.wp_at_zero Go.wp_at_succ
/-- What the walks of layer 2 ask of the library's variables. -/
structure NumEnv (w : World) : Prop where
  len : MaxLenIs w
  tabs : Lib.Utf8Tabs 2 3 w
  pow : Lib.TabIs Tryz.prog w "internal/strconv.uint64pow10" .u64 Lib.pow10Tab
theorem NumEnv.below {w w' : World} (h : NumEnv w) (hb : Below w.heap.size w w') : NumEnv w' := ⟨h.len.below hb, Utf8Tabs_below h.tabs hb, tab_below h.pow hb⟩
theorem LayAt.keep {w : World} {b b' : Nat} {h t : ByteArray} {x y z g : Int} (l : LayAt w b h t x y z g) (hn : b ≠ b') (h' t' : ByteArray) (x' y' z' g' : Int) : LayAt (putL w b' h' t' x' y' z' g') b h t x y z g := by
  obtain ⟨c0, c1, c2, c3, c4, c5, o0, o1, o2, o3, o4, o5⟩ := l
  have hn' : b' ≠ b := fun e => hn e.symm
  unfold putL
  refine ⟨?_, ?_, ?_, ?_, ?_, ?_, ?_, ?_, ?_, ?_, ?_, ?_⟩
  all_goals simp [go_sem, *]
set_option maxRecDepth 100000 in
set_option maxHeartbeats 1000000 in
theorem readPicture_live (w : World) (hE : NumEnv w) :
    Calls Tryz.prog 43 #[.string ⟨#[35, 44, 35, 35, 48, 46, 48, 48]⟩] w fun e w' => e = .returned (.tuple #[.agg #[.string ⟨#[]⟩, .string ⟨#[]⟩, .int .i64 1, .int .i64 2, .int .i64 2, .int .i64 3], .agg #[.string ⟨#[45]⟩, .string ⟨#[]⟩, .int .i64 0, .int .i64 0, .int .i64 0, .int .i64 0], .bool true]) ∧ Below w.heap.size w w' := by
  have HE := hide hE
  clear hE
  go_enter Tryz.func43, Tryz.ntmps43
  go_wp2_with fail
  have hb0 : Below w.heap.size w ((w.alloc (.cells #[.string ⟨#[]⟩, .string ⟨#[]⟩, .int .i64 0, .int .i64 0, .int .i64 0, .int .i64 0] 57)).alloc (.cells #[.string ⟨#[]⟩, .string ⟨#[]⟩, .int .i64 0, .int .i64 0, .int .i64 0, .int .i64 0] 57)) := by
    (repeat first | exact Below.refl _ _ | assumption | refine Below.drew ?_ | refine Below.alloc ?_ (by simp <;> omega) _ | refine Below.setCell ?_ (by simp <;> omega) _)
  have hl0 : LayAt ((w.alloc (.cells #[.string ⟨#[]⟩, .string ⟨#[]⟩, .int .i64 0, .int .i64 0, .int .i64 0, .int .i64 0] 57)).alloc (.cells #[.string ⟨#[]⟩, .string ⟨#[]⟩, .int .i64 0, .int .i64 0, .int .i64 0, .int .i64 0] 57)) w.heap.size ⟨#[]⟩ ⟨#[]⟩ 0 0 0 0 := (LayAt.new w).below (by (repeat first | exact Below.refl _ _ | assumption | refine Below.drew ?_ | refine Below.alloc ?_ (by simp <;> omega) _ | refine Below.setCell ?_ (by simp <;> omega) _))
  have hl1 : LayAt ((w.alloc (.cells #[.string ⟨#[]⟩, .string ⟨#[]⟩, .int .i64 0, .int .i64 0, .int .i64 0, .int .i64 0] 57)).alloc (.cells #[.string ⟨#[]⟩, .string ⟨#[]⟩, .int .i64 0, .int .i64 0, .int .i64 0, .int .i64 0] 57)) (w.heap.size + 1) ⟨#[]⟩ ⟨#[]⟩ 0 0 0 0 := by
    have := LayAt.new (w.alloc (.cells #[.string ⟨#[]⟩, .string ⟨#[]⟩, .int .i64 0, .int .i64 0, .int .i64 0, .int .i64 0] 57))
    simpa using this
  refine (Any.utf8_ValidString Tryz.laysValid ⟨#[35, 44, 35, 35, 48, 46, 48, 48]⟩ _ (by decide) ((unhide HE).below hb0).tabs).mono ?_
  rintro e w1 ⟨rfl, hb1⟩
  rw [show Lib.validD (⟨#[35, 44, 35, 35, 48, 46, 48, 48]⟩ : ByteArray).data.toList = true by decide +kernel]
  have hl0' := hl0.below hb1
  have hl1' := hl1.below hb1
  have hb01 := Below.then hb0 hb1
  clear hl0 hl1 hb0 hb1
  obtain ⟨m, hm⟩ := ((unhide HE).below hb01).len
  have HM := hide hm
  have HL0 := hide hl0'
  have HL1 := hide hl1'
  clear hm hl0' hl1'
  go_wp2_with fail
  refine (Tryz.strings_Cut ⟨#[35, 44, 35, 35, 48, 46, 48, 48]⟩ ⟨#[59]⟩ m _ (by decide) (unhide HM)).mono ?_
  rintro e w2 ⟨rfl, n2, rfl⟩
  rw [show Lib.cut (⟨#[35, 44, 35, 35, 48, 46, 48, 48]⟩ : ByteArray).data.toList (⟨#[59]⟩ : ByteArray).data.toList = ([35, 44, 35, 35, 48, 46, 48, 48], [], false) by decide +kernel]
  have hb02 : Below w.heap.size w (w1.drewN n2) := bel_drewN hb01 n2
  go_wp2_with fail
  refine (readLayout_live _ ((unhide HE).below hb02).len).mono ?_
  rintro e w3 ⟨rfl, hb3⟩
  have hl0 := ((unhide HL0).drewN n2).below hb3
  have hl1 := ((unhide HL1).drewN n2).below hb3
  have hb03 := Below.then hb02 hb3
  have h01 := block_lt_of_cell hl1.c0
  clear HL0 HL1 HM
  have HL1 := hide hl1
  have hl0p := hl0.put ⟨#[]⟩ ⟨#[]⟩ 1 2 2 3
  obtain ⟨c0, c1, c2, c3, c4, c5, o0, o1, o2, o3, o4, o5⟩ := hl0
  go_upto_region 5 with fail
  refine wp_named ?_
  intro W hW
  have hl0 : LayAt W w.heap.size ⟨#[]⟩ ⟨#[]⟩ 1 2 2 3 := by rw [hW]; exact hl0p
  have hl1 : LayAt W (w.heap.size + 1) ⟨#[]⟩ ⟨#[]⟩ 0 0 0 0 := by rw [hW]; exact (unhide HL1).keep (by omega) _ _ _ _ _ _
  have hbW : Below w.heap.size w W := by rw [hW]; exact putL_below hb03 (Nat.le_refl _) _ _ _ _ _ _
  clear hW hb3 hb02 hb01 hb03 h01 hl0p HL1 c0 c1 c2 c3 c4 c5 o0 o1 o2 o3 o4 o5
  have HL0 := hide hl0
  have HL1 := hide hl1
  obtain ⟨c0, c1, c2, c3, c4, c5, o0, o1, o2, o3, o4, o5⟩ := hl0
  obtain ⟨d0, d1, d2, d3, d4, d5, p0, p1, p2, p3, p4, p5⟩ := hl1
  go_upto_region 8 with fail
  go_wp2_with fail
  have hr0 := ((unhide HL0).put ⟨#[]⟩ ⟨#[]⟩ 1 2 2 3).keep (b' := w.heap.size + 1) (by omega) ⟨#[45]⟩ ⟨#[]⟩ 0 0 0 0
  have hr1 := ((unhide HL1).keep (b' := w.heap.size) (by omega) ⟨#[]⟩ ⟨#[]⟩ 1 2 2 3).put ⟨#[45]⟩ ⟨#[]⟩ 0 0 0 0
  have hbX := putL_below (putL_below hbW (Nat.le_refl _) ⟨#[]⟩ ⟨#[]⟩ 1 2 2 3) (show w.heap.size ≤ w.heap.size + 1 by omega) ⟨#[45]⟩ ⟨#[]⟩ 0 0 0 0
  show bodyPost _ _ _ _ _ (putL (putL W w.heap.size ⟨#[]⟩ ⟨#[]⟩ 1 2 2 3) (w.heap.size + 1) ⟨#[45]⟩ ⟨#[]⟩ 0 0 0 0)
  generalize putL (putL W w.heap.size ⟨#[]⟩ ⟨#[]⟩ 1 2 2 3) (w.heap.size + 1) ⟨#[45]⟩ ⟨#[]⟩ 0 0 0 0 = X at hr0 hr1 hbX ⊢
  clear HL0 HL1 c0 c1 c2 c3 c4 c5 o0 o1 o2 o3 o4 o5 d0 d1 d2 d3 d4 d5 p0 p1 p2 p3 p4 p5
  obtain ⟨c0, c1, c2, c3, c4, c5, _, _, _, _, _, _⟩ := hr0
  obtain ⟨d0, d1, d2, d3, d4, d5, _, _, _, _, _, _⟩ := hr1
  refine bodyPost_ret (v := .tuple #[.agg #[.string ⟨#[]⟩, .string ⟨#[]⟩, .int .i64 1, .int .i64 2, .int .i64 2, .int .i64 3], .agg #[.string ⟨#[45]⟩, .string ⟨#[]⟩, .int .i64 0, .int .i64 0, .int .i64 0, .int .i64 0], .bool true]) ?_ rfl ⟨rfl, hbX⟩
  simp [results, Tryz.results43, go_sem, c0, c1, c2, c3, c4, c5, d0, d1, d2, d3, d4, d5]
end Go.Proofs.YtnpdjddebeipiaaGreatDoor
