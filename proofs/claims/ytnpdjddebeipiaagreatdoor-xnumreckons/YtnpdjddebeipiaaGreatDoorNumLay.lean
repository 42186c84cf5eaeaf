/- A picture's layout, at live's picture: xnum's readLayout. -/
import Derived.Test.YtnpdjddebeipiaaGreatDoorNumPict
import Derived.Shelf.Strings.SlTrimAscii
import Derived.Deep.RegionHeld3
import Derived.WalkSmall
import Derived.Deep.DrawnRows
namespace Go.Proofs.YtnpdjddebeipiaaGreatDoor
open Go.RowKit
attribute [local go_sem ↓] Go.wp_at_zero Go.wp_at_succ
theorem bel_drewN {B : Nat} {a w : World} (h : Below B a w) (n : Nat) : Below B a (w.drewN n) := h.trans ⟨rfl, rfl, rfl, Nat.le_refl _, fun _ _ => rfl⟩
/-- A variable of a layout, and it may be written. -/
structure LayAt (w : World) (b : Nat) (h t : ByteArray) (x y z g : Int) : Prop where
  c0 : w.cell? ⟨b, 0, none⟩ = some (.string h)
  c1 : w.cell? ⟨b, 1, none⟩ = some (.string t)
  c2 : w.cell? ⟨b, 2, none⟩ = some (.int .i64 x)
  c3 : w.cell? ⟨b, 3, none⟩ = some (.int .i64 y)
  c4 : w.cell? ⟨b, 4, none⟩ = some (.int .i64 z)
  c5 : w.cell? ⟨b, 5, none⟩ = some (.int .i64 g)
  o0 : w.frozen? ⟨b, 0, none⟩ = false
  o1 : w.frozen? ⟨b, 1, none⟩ = false
  o2 : w.frozen? ⟨b, 2, none⟩ = false
  o3 : w.frozen? ⟨b, 3, none⟩ = false
  o4 : w.frozen? ⟨b, 4, none⟩ = false
  o5 : w.frozen? ⟨b, 5, none⟩ = false
theorem LayAt.below {w w' : World} {b : Nat} {h t : ByteArray} {x y z g : Int} (l : LayAt w b h t x y z g) (hb : Below w.heap.size w w') : LayAt w' b h t x y z g :=
  ⟨kept_cell hb l.c0, kept_cell hb l.c1, kept_cell hb l.c2, kept_cell hb l.c3, kept_cell hb l.c4, kept_cell hb l.c5, kept_open hb l.c0 l.o0, kept_open hb l.c1 l.o1, kept_open hb l.c2 l.o2, kept_open hb l.c3 l.o3, kept_open hb l.c4 l.o4, kept_open hb l.c5 l.o5⟩
theorem LayAt.drewN {w : World} {b : Nat} {h t : ByteArray} {x y z g : Int} (l : LayAt w b h t x y z g) (n : Nat) : LayAt (w.drewN n) b h t x y z g := l.below (bel_drewN (Below.refl _ _) n)
theorem LayAt.new (w : World) : LayAt (w.alloc (.cells #[.string ⟨#[]⟩, .string ⟨#[]⟩, .int .i64 0, .int .i64 0, .int .i64 0, .int .i64 0] 57)) w.heap.size ⟨#[]⟩ ⟨#[]⟩ 0 0 0 0 := by
  refine ⟨?_, ?_, ?_, ?_, ?_, ?_, ?_, ?_, ?_, ?_, ?_, ?_⟩
  all_goals simp [go_sem]
/-- .. when it is written. -/
def putL (w : World) (b : Nat) (h t : ByteArray) (x y z g : Int) : World := (((((w.setCell ⟨b, 0, none⟩ (.string h)).setCell ⟨b, 1, none⟩ (.string t)).setCell ⟨b, 2, none⟩ (.int .i64 x)).setCell ⟨b, 3, none⟩ (.int .i64 y)).setCell ⟨b, 4, none⟩ (.int .i64 z)).setCell ⟨b, 5, none⟩ (.int .i64 g)
theorem putL_below {w w' : World} {B b : Nat} (hb : Below B w w') (hk : B ≤ b) (h t : ByteArray) (x y z g : Int) : Below B w (putL w' b h t x y z g) := (((((hb.setCell hk _).setCell hk _).setCell hk _).setCell hk _).setCell hk _).setCell hk _
theorem LayAt.put {w : World} {b : Nat} {h t : ByteArray} {x y z g : Int} (l : LayAt w b h t x y z g) (h' t' : ByteArray) (x' y' z' g' : Int) : LayAt (putL w b h' t' x' y' z' g') b h' t' x' y' z' g' := by
  obtain ⟨c0, c1, c2, c3, c4, c5, o0, o1, o2, o3, o4, o5⟩ := l
  unfold putL
  refine ⟨?_, ?_, ?_, ?_, ?_, ?_, ?_, ?_, ?_, ?_, ?_, ?_⟩
  all_goals simp [go_sem, *]
set_option maxRecDepth 100000 in
set_option maxHeartbeats 1000000 in
theorem readLayout_live (w : World) (hm : MaxLenIs w) :
    Calls Tryz.prog 51 #[.string ⟨#[35, 44, 35, 35, 48, 46, 48, 48]⟩] w fun e w' => e = .returned (.tuple #[.agg #[.string ⟨#[]⟩, .string ⟨#[]⟩, .int .i64 1, .int .i64 2, .int .i64 2, .int .i64 3], .bool true]) ∧ Below w.heap.size w w' := by
  have HM := hide hm
  clear hm
  have HI := hide (fun w => Tryz.strings_IndexAny_laid ⟨#[35, 44, 35, 35, 48, 46, 48, 48]⟩ ⟨#[35, 48, 44, 46, 59, 37]⟩ w (by decide) (by decide) (ascii_of _ (by decide)) (ascii_of _ (by decide)))
  have HT := hide (fun w => Any.strings_TrimLeft_laid Tryz.lays161 (by kernel_rfl) ⟨#[35, 44, 35, 35, 48, 46, 48, 48]⟩ ⟨#[35, 48, 44, 46]⟩ w (by decide) (ascii_of _ (by decide)))
  have HC := hide (fun w => Tryz.strings_ContainsAny_laid ⟨#[35, 44, 35, 35, 48, 46, 48, 48]⟩ ⟨#[35, 48]⟩ w (by decide) (by decide) (ascii_of _ (by decide)) (ascii_of _ (by decide)))
  go_enter Tryz.func51, Tryz.ntmps51
  go_wp2_with fail
  refine (unhide HI _).mono ?_
  rintro e w1 ⟨rfl, hb1⟩
  rw [show Lib.indexAny (⟨#[35, 44, 35, 35, 48, 46, 48, 48]⟩ : ByteArray).data.toList (⟨#[35, 48, 44, 46, 59, 37]⟩ : ByteArray).data.toList = 0 by decide +kernel]
  go_wp2_with fail
  rw [show (⟨#[35, 44, 35, 35, 48, 46, 48, 48]⟩ : ByteArray).extract 0 8 = ⟨#[35, 44, 35, 35, 48, 46, 48, 48]⟩ by decide +kernel]
  refine (unhide HT _).mono ?_
  rintro e w2 ⟨rfl, hb2⟩
  rw [show Lib.trimLeftS (⟨#[35, 44, 35, 35, 48, 46, 48, 48]⟩ : ByteArray).data.toList (⟨#[35, 48, 44, 46]⟩ : ByteArray).data.toList = [] by decide +kernel]
  have hb02 := Below.then hb1 hb2
  have hb00 : Below w.heap.size w (w.alloc (.cells #[.string ⟨#[]⟩, .string ⟨#[]⟩, .int .i64 0, .int .i64 0, .int .i64 0, .int .i64 0] 57)) := by
    (repeat first | exact Below.refl _ _ | assumption | refine Below.drew ?_ | refine Below.alloc ?_ (by simp <;> omega) _ | refine Below.setCell ?_ (by simp <;> omega) _)
  obtain ⟨m2, hm2⟩ := (unhide HM).below (Below.then hb00 hb02)
  have HM2 := hide hm2
  clear hm2
  go_wp2_with fail
  rw [show (⟨#[35, 44, 35, 35, 48, 46, 48, 48]⟩ : ByteArray).extract 0 8 = ⟨#[35, 44, 35, 35, 48, 46, 48, 48]⟩ by decide +kernel]
  refine (Tryz.strings_Cut ⟨#[35, 44, 35, 35, 48, 46, 48, 48]⟩ ⟨#[46]⟩ m2 _ (by decide) (unhide HM2)).mono ?_
  rintro e w3 ⟨rfl, n3, rfl⟩
  rw [show Lib.cut (⟨#[35, 44, 35, 35, 48, 46, 48, 48]⟩ : ByteArray).data.toList (⟨#[46]⟩ : ByteArray).data.toList = ([35, 44, 35, 35, 48], [48, 48], true) by decide +kernel]
  go_wp2_with fail
  refine (isTail_live _).mono ?_
  rintro e w4 ⟨rfl, hb4⟩
  have hb04 : Below w2.heap.size w2 w4 := Below.then (bel_drewN (Below.refl _ _) n3) hb4
  go_wp2_with fail
  refine (isWhole_live _ ((unhide HM).below (Below.then hb00 (Below.then hb02 hb04)))).mono ?_
  rintro e w5 ⟨rfl, hb5⟩
  have hb05 := Below.then hb04 hb5
  go_wp2_with fail
  refine (isRest_live _ ((unhide HM).below (Below.then hb00 (Below.then hb02 hb05)))).mono ?_
  rintro e w6 ⟨rfl, hb6⟩
  have hb06 := Below.then hb05 hb6
  go_wp2_with fail
  refine (unhide HC _).mono ?_
  rintro e w7 ⟨rfl, hb7⟩
  have hb07 := Below.then (Below.then hb02 hb06) hb7
  rw [show Lib.containsAny (⟨#[35, 44, 35, 35, 48, 46, 48, 48]⟩ : ByteArray).data.toList (⟨#[35, 48]⟩ : ByteArray).data.toList = true by decide +kernel]
  have hl := (LayAt.new w).below hb07
  have hfin := Below.then hb00 hb07
  obtain ⟨c0, c1, c2, c3, c4, c5, o0, o1, o2, o3, o4, o5⟩ := hl
  clear hb1 hb2 hb02 hb4 hb04 hb5 hb05 hb6 hb06 hb7 hb07 hb00 HI HT HC HM HM2
  have HC1 := hide (fun w => Tryz.strings_Count_one ⟨#[35, 44, 35, 35, 48]⟩ 48 w)
  have HC2 := hide (fun w => Tryz.strings_Count_one ⟨#[48, 48]⟩ 48 w)
  have E1 := hide (show Lib.countByte (⟨#[35, 44, 35, 35, 48]⟩ : ByteArray).data.toList 48 = 1 by decide +kernel)
  have E2 := hide (show Lib.countByte (⟨#[48, 48]⟩ : ByteArray).data.toList 48 = 2 by decide +kernel)
  go_wp2_with fail
  go_region_held3 (fun _ => True) (exact trivial)
    (first
      | (go_at_call_of 68 (Value.string ⟨#[35, 44, 35, 35, 48]⟩); refine (unhide HC1 _).mono ?_; rintro e w' ⟨rfl, rfl⟩; rw [unhide E1])
      | (go_at_call_of 68 (Value.string ⟨#[48, 48]⟩); refine (unhide HC2 _).mono ?_; rintro e w' ⟨rfl, rfl⟩; rw [unhide E2])
      | (go_at_call 69; refine (groupOf_live _).mono ?_; rintro e w' ⟨rfl, rfl⟩))
  go_wp2
  clear HC1 HC2 E1 E2
  have hL := (LayAt.put (w := w7) (b := w.heap.size) ⟨c0, c1, c2, c3, c4, c5, o0, o1, o2, o3, o4, o5⟩ ⟨#[]⟩ ⟨#[]⟩ 1 2 2 3).drewN 1
  have hB : Below w.heap.size w ((putL w7 w.heap.size ⟨#[]⟩ ⟨#[]⟩ 1 2 2 3).drewN 1) := by
    exact bel_drewN (putL_below hfin (Nat.le_refl _) _ _ _ _ _ _) 1
  clear c0 c1 c2 c3 c4 c5 o0 o1 o2 o3 o4 o5
  have he : ((putL w7 w.heap.size ⟨#[]⟩ ⟨#[]⟩ 1 2 2 3).drewN 1) = ((putL w7 w.heap.size ⟨#[]⟩ ⟨#[]⟩ 1 2 2 3).drew) := rfl
  rw [he] at hL hB
  show bodyPost _ _ _ _ _ ((putL w7 w.heap.size ⟨#[]⟩ ⟨#[]⟩ 1 2 2 3).drew)
  generalize (putL w7 w.heap.size ⟨#[]⟩ ⟨#[]⟩ 1 2 2 3).drew = W at hL hB ⊢
  clear he hfin
  obtain ⟨c0, c1, c2, c3, c4, c5, _, _, _, _, _, _⟩ := hL
  refine bodyPost_ret (v := .tuple #[.agg #[.string ⟨#[]⟩, .string ⟨#[]⟩, .int .i64 1, .int .i64 2, .int .i64 2, .int .i64 3], .bool true]) ?_ rfl ⟨rfl, hB⟩
  simp [results, Tryz.results51, go_sem, c0, c1, c2, c3, c4, c5]
end Go.Proofs.YtnpdjddebeipiaaGreatDoor
