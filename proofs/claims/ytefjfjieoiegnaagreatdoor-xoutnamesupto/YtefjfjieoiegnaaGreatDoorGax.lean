/- Several texts, laid as one. -/
import Derived.Test.YtefjfjieoiegnaaGreatDoorXmlRefs
import Derived.Shelf.Strings.MapAny
/- Blanks as spaces: xmlscan's spaced. -/
namespace Go.Proofs.YtefjfjieoiegnaaGreatDoor
open Go.RowKit
end Go.Proofs.YtefjfjieoiegnaaGreatDoor
/- Names of html: xout's small, Void, Raw, Short. -/
namespace Go.Proofs.YtefjfjieoiegnaaGreatDoor
open Go.RowKit
def lowZ (r : Int) : Int := if 65 ≤ r ∧ r ≤ 90 then r + 32 else r
theorem small1_any (r : Int) (w : World) (h0 : 0 ≤ r) (h1 : r ≤ 1114111) : Calls Tryz.prog 36 #[.int .i32 r] w fun e w' => e = .returned (.int .i32 (lowZ r)) ∧ w' = w := by
  by_cases ha : 65 ≤ r
  · by_cases hb : r ≤ 90
    · have HD : Hid (lowZ r = r + 32) := hide (by unfold lowZ; rw [if_pos ⟨ha, hb⟩])
      have e1 : r - 65 + 97 = r + 32 := by omega
      go_enter Tryz.func36, Tryz.ntmps36
      go_wp2
      go_ret
      rw [unhide HD]
      exact ⟨by simp, rfl⟩
    · have HD : Hid (lowZ r = r) := hide (by unfold lowZ; rw [if_neg (fun h => hb h.2)])
      go_enter Tryz.func36, Tryz.ntmps36
      go_wp2
      go_ret
      rw [unhide HD]
      exact ⟨rfl, rfl⟩
  · have HD : Hid (lowZ r = r) := hide (by unfold lowZ; rw [if_neg (fun h => ha h.1)])
    go_enter Tryz.func36, Tryz.ntmps36
    go_wp2
    go_ret
    rw [unhide HD]
    exact ⟨rfl, rfl⟩
theorem small1_runes (w : World) : MapAtRunes Tryz.prog 36 #[] lowZ w := fun W x h0 h1 => by
  refine (small1_any x W (by omega) (by omega)).mono ?_
  rintro e w' ⟨rfl, rfl⟩
  exact ⟨rfl, 0, rfl⟩
theorem small1_enters : ∀ args w, (callFunc 36 args).run Tryz.prog w = .ok (.enter 36 args) w := fun _ _ => by kernel_rfl
/-- A name with small letters for A to Z. -/
def smallB (s : ByteArray) : List UInt8 := Lib.mapD lowZ s.data.toList
set_option maxHeartbeats 1000000 in
theorem small_any (s : ByteArray) (w : World) (hs : s.size ≤ 1048576) (hE : Env w) :
    Calls Tryz.prog 21 #[.string s] w fun e w' => e = .returned (.string ⟨(smallB s).toArray⟩) ∧ Below w.heap.size w w' := by
  have HM : Hid (∀ W, Below w.heap.size w W → Calls Tryz.prog 35 #[.func (.func 36) #[] #[], .string s] W fun e w' => e = .returned (.string ⟨(smallB s).toArray⟩) ∧ Below W.heap.size W w') := by
    refine hide fun W hW => (Tryz.strings_Map_runes 36 #[] small1_enters lowZ s W (by omega) (small1_runes W) (fun x hx => ?_) (hE.below hW).tabs)
    unfold lowZ
    split <;> omega
  clear hE
  go_enter Tryz.func21, Tryz.ntmps21
  go_wp2_with (go_at_call 35; refine (unhide HM _ (by (repeat first | assumption | with_reducible exact Below.refl _ _ | refine Below.drew ?_))).mono ?_; rintro e w1 ⟨rfl, hb1⟩)
  go_ret
  exact ⟨rfl, hb1⟩
def voidL : List (List UInt8) := [[97, 114, 101, 97], [98, 97, 115, 101], [98, 114], [99, 111, 108], [101, 109, 98, 101, 100], [104, 114], [105, 109, 103], [105, 110, 112, 117, 116], [108, 105, 110, 107], [109, 101, 116, 97], [115, 111, 117, 114, 99, 101], [116, 114, 97, 99, 107], [119, 98, 114]]
def voidB (s : ByteArray) : Bool := voidL.contains (smallB s)
set_option maxRecDepth 100000 in
set_option maxHeartbeats 4000000 in
theorem xVoid_any (s : ByteArray) (w : World) (hs : s.size ≤ 1048576) (hE : Env w) :
    Calls Tryz.prog 10 #[.string s] w fun e w' => e = .returned (.bool (voidB s)) ∧ Below w.heap.size w w' := by
  have HS := hide (small_any s w hs hE)
  have HV : Hid (voidB s = voidL.contains (smallB s)) := hide rfl
  clear hE
  generalize smallB s = x at *
  have hx : (⟨x.toArray⟩ : ByteArray).toList = x := by rw [toList_data]
  by_cases k0 : x = [97, 114, 101, 97]
  · have HB : Hid (voidB s = true) := hide (by rw [unhide HV, k0]; decide)
    subst k0
    clear HV
    go_enter Tryz.func10, Tryz.ntmps10
    go_wp2_with fail
    refine (unhide HS).mono ?_
    rintro e w1 ⟨rfl, hb1⟩
    go_wp2
    go_returns
    rw [unhide HB]
    exact ⟨rfl, hb1⟩
  by_cases k1 : x = [98, 97, 115, 101]
  · have HB : Hid (voidB s = true) := hide (by rw [unhide HV, k1]; decide)
    subst k1
    clear HV
    go_enter Tryz.func10, Tryz.ntmps10
    go_wp2_with fail
    refine (unhide HS).mono ?_
    rintro e w1 ⟨rfl, hb1⟩
    go_wp2
    go_returns
    rw [unhide HB]
    exact ⟨rfl, hb1⟩
  by_cases k2 : x = [98, 114]
  · have HB : Hid (voidB s = true) := hide (by rw [unhide HV, k2]; decide)
    subst k2
    clear HV
    go_enter Tryz.func10, Tryz.ntmps10
    go_wp2_with fail
    refine (unhide HS).mono ?_
    rintro e w1 ⟨rfl, hb1⟩
    go_wp2
    go_returns
    rw [unhide HB]
    exact ⟨rfl, hb1⟩
  by_cases k3 : x = [99, 111, 108]
  · have HB : Hid (voidB s = true) := hide (by rw [unhide HV, k3]; decide)
    subst k3
    clear HV
    go_enter Tryz.func10, Tryz.ntmps10
    go_wp2_with fail
    refine (unhide HS).mono ?_
    rintro e w1 ⟨rfl, hb1⟩
    go_wp2
    go_returns
    rw [unhide HB]
    exact ⟨rfl, hb1⟩
  by_cases k4 : x = [101, 109, 98, 101, 100]
  · have HB : Hid (voidB s = true) := hide (by rw [unhide HV, k4]; decide)
    subst k4
    clear HV
    go_enter Tryz.func10, Tryz.ntmps10
    go_wp2_with fail
    refine (unhide HS).mono ?_
    rintro e w1 ⟨rfl, hb1⟩
    go_wp2
    go_returns
    rw [unhide HB]
    exact ⟨rfl, hb1⟩
  by_cases k5 : x = [104, 114]
  · have HB : Hid (voidB s = true) := hide (by rw [unhide HV, k5]; decide)
    subst k5
    clear HV
    go_enter Tryz.func10, Tryz.ntmps10
    go_wp2_with fail
    refine (unhide HS).mono ?_
    rintro e w1 ⟨rfl, hb1⟩
    go_wp2
    go_returns
    rw [unhide HB]
    exact ⟨rfl, hb1⟩
  by_cases k6 : x = [105, 109, 103]
  · have HB : Hid (voidB s = true) := hide (by rw [unhide HV, k6]; decide)
    subst k6
    clear HV
    go_enter Tryz.func10, Tryz.ntmps10
    go_wp2_with fail
    refine (unhide HS).mono ?_
    rintro e w1 ⟨rfl, hb1⟩
    go_wp2
    go_returns
    rw [unhide HB]
    exact ⟨rfl, hb1⟩
  by_cases k7 : x = [105, 110, 112, 117, 116]
  · have HB : Hid (voidB s = true) := hide (by rw [unhide HV, k7]; decide)
    subst k7
    clear HV
    go_enter Tryz.func10, Tryz.ntmps10
    go_wp2_with fail
    refine (unhide HS).mono ?_
    rintro e w1 ⟨rfl, hb1⟩
    go_wp2
    go_returns
    rw [unhide HB]
    exact ⟨rfl, hb1⟩
  by_cases k8 : x = [108, 105, 110, 107]
  · have HB : Hid (voidB s = true) := hide (by rw [unhide HV, k8]; decide)
    subst k8
    clear HV
    go_enter Tryz.func10, Tryz.ntmps10
    go_wp2_with fail
    refine (unhide HS).mono ?_
    rintro e w1 ⟨rfl, hb1⟩
    go_wp2
    go_returns
    rw [unhide HB]
    exact ⟨rfl, hb1⟩
  by_cases k9 : x = [109, 101, 116, 97]
  · have HB : Hid (voidB s = true) := hide (by rw [unhide HV, k9]; decide)
    subst k9
    clear HV
    go_enter Tryz.func10, Tryz.ntmps10
    go_wp2_with fail
    refine (unhide HS).mono ?_
    rintro e w1 ⟨rfl, hb1⟩
    go_wp2
    go_returns
    rw [unhide HB]
    exact ⟨rfl, hb1⟩
  by_cases k10 : x = [115, 111, 117, 114, 99, 101]
  · have HB : Hid (voidB s = true) := hide (by rw [unhide HV, k10]; decide)
    subst k10
    clear HV
    go_enter Tryz.func10, Tryz.ntmps10
    go_wp2_with fail
    refine (unhide HS).mono ?_
    rintro e w1 ⟨rfl, hb1⟩
    go_wp2
    go_returns
    rw [unhide HB]
    exact ⟨rfl, hb1⟩
  by_cases k11 : x = [116, 114, 97, 99, 107]
  · have HB : Hid (voidB s = true) := hide (by rw [unhide HV, k11]; decide)
    subst k11
    clear HV
    go_enter Tryz.func10, Tryz.ntmps10
    go_wp2_with fail
    refine (unhide HS).mono ?_
    rintro e w1 ⟨rfl, hb1⟩
    go_wp2
    go_returns
    rw [unhide HB]
    exact ⟨rfl, hb1⟩
  by_cases k12 : x = [119, 98, 114]
  · have HB : Hid (voidB s = true) := hide (by rw [unhide HV, k12]; decide)
    subst k12
    clear HV
    go_enter Tryz.func10, Tryz.ntmps10
    go_wp2_with fail
    refine (unhide HS).mono ?_
    rintro e w1 ⟨rfl, hb1⟩
    go_wp2
    go_returns
    rw [unhide HB]
    exact ⟨rfl, hb1⟩
  have HB : Hid (voidB s = false) := hide (by rw [unhide HV]; unfold voidL; simp [k0, k1, k2, k3, k4, k5, k6, k7, k8, k9, k10, k11, k12])
  have j0 : ((⟨x.toArray⟩ : ByteArray).toList == [97, 114, 101, 97]) = false := by rw [hx]; simpa using k0
  have j1 : ((⟨x.toArray⟩ : ByteArray).toList == [98, 97, 115, 101]) = false := by rw [hx]; simpa using k1
  have j2 : ((⟨x.toArray⟩ : ByteArray).toList == [98, 114]) = false := by rw [hx]; simpa using k2
  have j3 : ((⟨x.toArray⟩ : ByteArray).toList == [99, 111, 108]) = false := by rw [hx]; simpa using k3
  have j4 : ((⟨x.toArray⟩ : ByteArray).toList == [101, 109, 98, 101, 100]) = false := by rw [hx]; simpa using k4
  have j5 : ((⟨x.toArray⟩ : ByteArray).toList == [104, 114]) = false := by rw [hx]; simpa using k5
  have j6 : ((⟨x.toArray⟩ : ByteArray).toList == [105, 109, 103]) = false := by rw [hx]; simpa using k6
  have j7 : ((⟨x.toArray⟩ : ByteArray).toList == [105, 110, 112, 117, 116]) = false := by rw [hx]; simpa using k7
  have j8 : ((⟨x.toArray⟩ : ByteArray).toList == [108, 105, 110, 107]) = false := by rw [hx]; simpa using k8
  have j9 : ((⟨x.toArray⟩ : ByteArray).toList == [109, 101, 116, 97]) = false := by rw [hx]; simpa using k9
  have j10 : ((⟨x.toArray⟩ : ByteArray).toList == [115, 111, 117, 114, 99, 101]) = false := by rw [hx]; simpa using k10
  have j11 : ((⟨x.toArray⟩ : ByteArray).toList == [116, 114, 97, 99, 107]) = false := by rw [hx]; simpa using k11
  have j12 : ((⟨x.toArray⟩ : ByteArray).toList == [119, 98, 114]) = false := by rw [hx]; simpa using k12
  clear HV hx k0 k1 k2 k3 k4 k5 k6 k7 k8 k9 k10 k11 k12
  generalize (⟨x.toArray⟩ : ByteArray) = X at *
  go_enter Tryz.func10, Tryz.ntmps10
  go_wp2_with fail
  refine (unhide HS).mono ?_
  rintro e w1 ⟨rfl, hb1⟩
  go_wp2
  go_returns
  rw [unhide HB]
  exact ⟨rfl, hb1⟩
def rawL : List (List UInt8) := [[115, 99, 114, 105, 112, 116], [115, 116, 121, 108, 101]]
def rawB (s : ByteArray) : Bool := rawL.contains (smallB s)
set_option maxRecDepth 100000 in
set_option maxHeartbeats 4000000 in
theorem xRaw_any (s : ByteArray) (w : World) (hs : s.size ≤ 1048576) (hE : Env w) :
    Calls Tryz.prog 12 #[.string s] w fun e w' => e = .returned (.bool (rawB s)) ∧ Below w.heap.size w w' := by
  have HS := hide (small_any s w hs hE)
  have HV : Hid (rawB s = rawL.contains (smallB s)) := hide rfl
  clear hE
  generalize smallB s = x at *
  have hx : (⟨x.toArray⟩ : ByteArray).toList = x := by rw [toList_data]
  by_cases k0 : x = [115, 99, 114, 105, 112, 116]
  · have HB : Hid (rawB s = true) := hide (by rw [unhide HV, k0]; decide)
    subst k0
    clear HV
    go_enter Tryz.func12, Tryz.ntmps12
    go_wp2_with fail
    refine (unhide HS).mono ?_
    rintro e w1 ⟨rfl, hb1⟩
    go_wp2
    go_returns
    rw [unhide HB]
    exact ⟨rfl, hb1⟩
  by_cases k1 : x = [115, 116, 121, 108, 101]
  · have HB : Hid (rawB s = true) := hide (by rw [unhide HV, k1]; decide)
    subst k1
    clear HV
    go_enter Tryz.func12, Tryz.ntmps12
    go_wp2_with fail
    refine (unhide HS).mono ?_
    rintro e w1 ⟨rfl, hb1⟩
    go_wp2
    go_returns
    rw [unhide HB]
    exact ⟨rfl, hb1⟩
  have HB : Hid (rawB s = false) := hide (by rw [unhide HV]; unfold rawL; simp [k0, k1])
  have j0 : ((⟨x.toArray⟩ : ByteArray).toList == [115, 99, 114, 105, 112, 116]) = false := by rw [hx]; simpa using k0
  have j1 : ((⟨x.toArray⟩ : ByteArray).toList == [115, 116, 121, 108, 101]) = false := by rw [hx]; simpa using k1
  clear HV hx k0 k1
  generalize (⟨x.toArray⟩ : ByteArray) = X at *
  go_enter Tryz.func12, Tryz.ntmps12
  go_wp2_with fail
  refine (unhide HS).mono ?_
  rintro e w1 ⟨rfl, hb1⟩
  go_wp2
  go_returns
  rw [unhide HB]
  exact ⟨rfl, hb1⟩
def shortL : List (List UInt8) := [[99, 104, 101, 99, 107, 101, 100], [99, 111, 109, 112, 97, 99, 116], [100, 101, 99, 108, 97, 114, 101], [100, 101, 102, 101, 114], [100, 105, 115, 97, 98, 108, 101, 100], [105, 115, 109, 97, 112], [109, 117, 108, 116, 105, 112, 108, 101], [110, 111, 104, 114, 101, 102], [110, 111, 114, 101, 115, 105, 122, 101], [110, 111, 115, 104, 97, 100, 101], [110, 111, 119, 114, 97, 112], [114, 101, 97, 100, 111, 110, 108, 121], [115, 101, 108, 101, 99, 116, 101, 100]]
def shortB (s : ByteArray) : Bool := shortL.contains (smallB s)
set_option maxRecDepth 100000 in
set_option maxHeartbeats 4000000 in
theorem xShort_any (s : ByteArray) (w : World) (hs : s.size ≤ 1048576) (hE : Env w) :
    Calls Tryz.prog 14 #[.string s] w fun e w' => e = .returned (.bool (shortB s)) ∧ Below w.heap.size w w' := by
  have HS := hide (small_any s w hs hE)
  have HV : Hid (shortB s = shortL.contains (smallB s)) := hide rfl
  clear hE
  generalize smallB s = x at *
  have hx : (⟨x.toArray⟩ : ByteArray).toList = x := by rw [toList_data]
  by_cases k0 : x = [99, 104, 101, 99, 107, 101, 100]
  · have HB : Hid (shortB s = true) := hide (by rw [unhide HV, k0]; decide)
    subst k0
    clear HV
    go_enter Tryz.func14, Tryz.ntmps14
    go_wp2_with fail
    refine (unhide HS).mono ?_
    rintro e w1 ⟨rfl, hb1⟩
    go_wp2
    go_returns
    rw [unhide HB]
    exact ⟨rfl, hb1⟩
  by_cases k1 : x = [99, 111, 109, 112, 97, 99, 116]
  · have HB : Hid (shortB s = true) := hide (by rw [unhide HV, k1]; decide)
    subst k1
    clear HV
    go_enter Tryz.func14, Tryz.ntmps14
    go_wp2_with fail
    refine (unhide HS).mono ?_
    rintro e w1 ⟨rfl, hb1⟩
    go_wp2
    go_returns
    rw [unhide HB]
    exact ⟨rfl, hb1⟩
  by_cases k2 : x = [100, 101, 99, 108, 97, 114, 101]
  · have HB : Hid (shortB s = true) := hide (by rw [unhide HV, k2]; decide)
    subst k2
    clear HV
    go_enter Tryz.func14, Tryz.ntmps14
    go_wp2_with fail
    refine (unhide HS).mono ?_
    rintro e w1 ⟨rfl, hb1⟩
    go_wp2
    go_returns
    rw [unhide HB]
    exact ⟨rfl, hb1⟩
  by_cases k3 : x = [100, 101, 102, 101, 114]
  · have HB : Hid (shortB s = true) := hide (by rw [unhide HV, k3]; decide)
    subst k3
    clear HV
    go_enter Tryz.func14, Tryz.ntmps14
    go_wp2_with fail
    refine (unhide HS).mono ?_
    rintro e w1 ⟨rfl, hb1⟩
    go_wp2
    go_returns
    rw [unhide HB]
    exact ⟨rfl, hb1⟩
  by_cases k4 : x = [100, 105, 115, 97, 98, 108, 101, 100]
  · have HB : Hid (shortB s = true) := hide (by rw [unhide HV, k4]; decide)
    subst k4
    clear HV
    go_enter Tryz.func14, Tryz.ntmps14
    go_wp2_with fail
    refine (unhide HS).mono ?_
    rintro e w1 ⟨rfl, hb1⟩
    go_wp2
    go_returns
    rw [unhide HB]
    exact ⟨rfl, hb1⟩
  by_cases k5 : x = [105, 115, 109, 97, 112]
  · have HB : Hid (shortB s = true) := hide (by rw [unhide HV, k5]; decide)
    subst k5
    clear HV
    go_enter Tryz.func14, Tryz.ntmps14
    go_wp2_with fail
    refine (unhide HS).mono ?_
    rintro e w1 ⟨rfl, hb1⟩
    go_wp2
    go_returns
    rw [unhide HB]
    exact ⟨rfl, hb1⟩
  by_cases k6 : x = [109, 117, 108, 116, 105, 112, 108, 101]
  · have HB : Hid (shortB s = true) := hide (by rw [unhide HV, k6]; decide)
    subst k6
    clear HV
    go_enter Tryz.func14, Tryz.ntmps14
    go_wp2_with fail
    refine (unhide HS).mono ?_
    rintro e w1 ⟨rfl, hb1⟩
    go_wp2
    go_returns
    rw [unhide HB]
    exact ⟨rfl, hb1⟩
  by_cases k7 : x = [110, 111, 104, 114, 101, 102]
  · have HB : Hid (shortB s = true) := hide (by rw [unhide HV, k7]; decide)
    subst k7
    clear HV
    go_enter Tryz.func14, Tryz.ntmps14
    go_wp2_with fail
    refine (unhide HS).mono ?_
    rintro e w1 ⟨rfl, hb1⟩
    go_wp2
    go_returns
    rw [unhide HB]
    exact ⟨rfl, hb1⟩
  by_cases k8 : x = [110, 111, 114, 101, 115, 105, 122, 101]
  · have HB : Hid (shortB s = true) := hide (by rw [unhide HV, k8]; decide)
    subst k8
    clear HV
    go_enter Tryz.func14, Tryz.ntmps14
    go_wp2_with fail
    refine (unhide HS).mono ?_
    rintro e w1 ⟨rfl, hb1⟩
    go_wp2
    go_returns
    rw [unhide HB]
    exact ⟨rfl, hb1⟩
  by_cases k9 : x = [110, 111, 115, 104, 97, 100, 101]
  · have HB : Hid (shortB s = true) := hide (by rw [unhide HV, k9]; decide)
    subst k9
    clear HV
    go_enter Tryz.func14, Tryz.ntmps14
    go_wp2_with fail
    refine (unhide HS).mono ?_
    rintro e w1 ⟨rfl, hb1⟩
    go_wp2
    go_returns
    rw [unhide HB]
    exact ⟨rfl, hb1⟩
  by_cases k10 : x = [110, 111, 119, 114, 97, 112]
  · have HB : Hid (shortB s = true) := hide (by rw [unhide HV, k10]; decide)
    subst k10
    clear HV
    go_enter Tryz.func14, Tryz.ntmps14
    go_wp2_with fail
    refine (unhide HS).mono ?_
    rintro e w1 ⟨rfl, hb1⟩
    go_wp2
    go_returns
    rw [unhide HB]
    exact ⟨rfl, hb1⟩
  by_cases k11 : x = [114, 101, 97, 100, 111, 110, 108, 121]
  · have HB : Hid (shortB s = true) := hide (by rw [unhide HV, k11]; decide)
    subst k11
    clear HV
    go_enter Tryz.func14, Tryz.ntmps14
    go_wp2_with fail
    refine (unhide HS).mono ?_
    rintro e w1 ⟨rfl, hb1⟩
    go_wp2
    go_returns
    rw [unhide HB]
    exact ⟨rfl, hb1⟩
  by_cases k12 : x = [115, 101, 108, 101, 99, 116, 101, 100]
  · have HB : Hid (shortB s = true) := hide (by rw [unhide HV, k12]; decide)
    subst k12
    clear HV
    go_enter Tryz.func14, Tryz.ntmps14
    go_wp2_with fail
    refine (unhide HS).mono ?_
    rintro e w1 ⟨rfl, hb1⟩
    go_wp2
    go_returns
    rw [unhide HB]
    exact ⟨rfl, hb1⟩
  have HB : Hid (shortB s = false) := hide (by rw [unhide HV]; unfold shortL; simp [k0, k1, k2, k3, k4, k5, k6, k7, k8, k9, k10, k11, k12])
  have j0 : ((⟨x.toArray⟩ : ByteArray).toList == [99, 104, 101, 99, 107, 101, 100]) = false := by rw [hx]; simpa using k0
  have j1 : ((⟨x.toArray⟩ : ByteArray).toList == [99, 111, 109, 112, 97, 99, 116]) = false := by rw [hx]; simpa using k1
  have j2 : ((⟨x.toArray⟩ : ByteArray).toList == [100, 101, 99, 108, 97, 114, 101]) = false := by rw [hx]; simpa using k2
  have j3 : ((⟨x.toArray⟩ : ByteArray).toList == [100, 101, 102, 101, 114]) = false := by rw [hx]; simpa using k3
  have j4 : ((⟨x.toArray⟩ : ByteArray).toList == [100, 105, 115, 97, 98, 108, 101, 100]) = false := by rw [hx]; simpa using k4
  have j5 : ((⟨x.toArray⟩ : ByteArray).toList == [105, 115, 109, 97, 112]) = false := by rw [hx]; simpa using k5
  have j6 : ((⟨x.toArray⟩ : ByteArray).toList == [109, 117, 108, 116, 105, 112, 108, 101]) = false := by rw [hx]; simpa using k6
  have j7 : ((⟨x.toArray⟩ : ByteArray).toList == [110, 111, 104, 114, 101, 102]) = false := by rw [hx]; simpa using k7
  have j8 : ((⟨x.toArray⟩ : ByteArray).toList == [110, 111, 114, 101, 115, 105, 122, 101]) = false := by rw [hx]; simpa using k8
  have j9 : ((⟨x.toArray⟩ : ByteArray).toList == [110, 111, 115, 104, 97, 100, 101]) = false := by rw [hx]; simpa using k9
  have j10 : ((⟨x.toArray⟩ : ByteArray).toList == [110, 111, 119, 114, 97, 112]) = false := by rw [hx]; simpa using k10
  have j11 : ((⟨x.toArray⟩ : ByteArray).toList == [114, 101, 97, 100, 111, 110, 108, 121]) = false := by rw [hx]; simpa using k11
  have j12 : ((⟨x.toArray⟩ : ByteArray).toList == [115, 101, 108, 101, 99, 116, 101, 100]) = false := by rw [hx]; simpa using k12
  clear HV hx k0 k1 k2 k3 k4 k5 k6 k7 k8 k9 k10 k11 k12
  generalize (⟨x.toArray⟩ : ByteArray) = X at *
  go_enter Tryz.func14, Tryz.ntmps14
  go_wp2_with fail
  refine (unhide HS).mono ?_
  rintro e w1 ⟨rfl, hb1⟩
  go_wp2
  go_returns
  rw [unhide HB]
  exact ⟨rfl, hb1⟩
end Go.Proofs.YtefjfjieoiegnaaGreatDoor
