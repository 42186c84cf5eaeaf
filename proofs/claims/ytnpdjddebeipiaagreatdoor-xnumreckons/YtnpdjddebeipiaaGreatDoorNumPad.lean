/- Noughts ahead, and none behind: xnum's padLeft and placesOf. -/
import Derived.Test.YtnpdjddebeipiaaGreatDoorNumText
import Derived.Lib.TrimByte
import Derived.Lib.SmallJoins
namespace Go.Proofs.YtnpdjddebeipiaaGreatDoor
open Go.RowKit
set_option maxHeartbeats 1000000 in
theorem padLeft_any (s : ByteArray) (n : Nat) (w : World) (hs : s.size ≤ 1000000) (hn : n ≤ 1000000) :
    Calls Tryz.prog 58 #[.string s, .int .i64 (n : Int)] w fun e w' => e = .returned (.string ((⟨(Lib.repeatL [48] (n - s.size)).toArray⟩ : ByteArray) ++ s)) ∧ Below w.heap.size w w' := by
  have HR := hide (fun w => Tryz.strings_Repeat ⟨#[48]⟩ (n - s.size) w (by omega) (by show 1 * (n - s.size) ≤ _; omega))
  by_cases h : s.size ≤ n
  · have e1 : max ((n : Int) - (s.size : Int)) 0 = ((n - s.size : Nat) : Int) := by omega
    go_enter Tryz.func58, Tryz.ntmps58
    go_wp2_with fail
    refine (unhide HR _).mono ?_
    rintro e w1 ⟨rfl, hb⟩
    have hsz : (⟨(Lib.repeatL [48] (n - s.size)).toArray⟩ : ByteArray).size ≤ 1000000 := by
      show (Lib.repeatL [48] (n - s.size)).toArray.size ≤ 1000000
      simp [Lib.repeatL_length]
      omega
    generalize hR : (⟨(Lib.repeatL [48] (n - s.size)).toArray⟩ : ByteArray) = R at *
    have HRR := hide hR
    clear hR
    go_wp2
    go_ret
    exact ⟨by rw [unhide HRR]; rfl, hb⟩
  · have e1 : max ((n : Int) - (s.size : Int)) 0 = ((n - s.size : Nat) : Int) := by omega
    go_enter Tryz.func58, Tryz.ntmps58
    go_wp2_with fail
    refine (unhide HR _).mono ?_
    rintro e w1 ⟨rfl, hb⟩
    have hsz : (⟨(Lib.repeatL [48] (n - s.size)).toArray⟩ : ByteArray).size ≤ 1000000 := by
      show (Lib.repeatL [48] (n - s.size)).toArray.size ≤ 1000000
      simp [Lib.repeatL_length]
      omega
    generalize hR : (⟨(Lib.repeatL [48] (n - s.size)).toArray⟩ : ByteArray) = R at *
    have HRR := hide hR
    clear hR
    go_wp2
    go_ret
    exact ⟨by rw [unhide HRR]; rfl, hb⟩
/-- What stands behind the point for so many millionths. -/
def placesL (m : Nat) : List UInt8 := Lib.trimRightB ((⟨(Lib.repeatL [48] (6 - (Lib.decDigits m).length)).toArray⟩ : ByteArray) ++ ⟨(Lib.decDigits m).toArray⟩).data.toList 48
theorem digits_small (m : Nat) (h : m < 18446744073709551616) : (Lib.decDigits m).length ≤ 20 := by
  rw [Lib.decDigits_length]
  by_cases h0 : 1 ≤ m
  · have := Lib.numDigits_eq m h0 h
    split at this <;> omega
  · have : m = 0 := by omega
    subst this
    decide +kernel
set_option maxHeartbeats 1000000 in
theorem placesOf_any (m : Nat) (w : World) (hm : m < 18446744073709551616) (htab : Lib.TabIs Tryz.prog w "internal/strconv.uint64pow10" .u64 Lib.pow10Tab) :
    Calls Tryz.prog 46 #[.int .u64 (m : Int)] w fun e w' => e = .returned (.string ⟨(placesL m).toArray⟩) ∧ Below w.heap.size w w' := by
  have hd := digits_small m hm
  have HF := hide (formatUint_any m hm w htab)
  have HP := hide (fun w => padLeft_any ⟨(Lib.decDigits m).toArray⟩ 6 w (by show (Lib.decDigits m).toArray.size ≤ _; simp; omega) (by omega))
  have HT := hide (fun w => Tryz.strings_TrimRight_one ((⟨(Lib.repeatL [48] (6 - (⟨(Lib.decDigits m).toArray⟩ : ByteArray).size)).toArray⟩ : ByteArray) ++ ⟨(Lib.decDigits m).toArray⟩) 48 (by decide) w (by
    rw [ByteArray.size_append]
    show (Lib.repeatL [48] _).toArray.size + (Lib.decDigits m).toArray.size ≤ _
    simp [Lib.repeatL_length]
    omega))
  clear htab hd
  go_enter Tryz.func46, Tryz.ntmps46
  go_wp2_with fail
  refine (unhide HF).mono ?_
  rintro e w1 ⟨rfl, hb1⟩
  go_wp2_with fail
  refine (unhide HP _).mono ?_
  rintro e w2 ⟨rfl, hb2⟩
  go_wp2_with fail
  refine (unhide HT _).mono ?_
  rintro e w3 ⟨rfl, rfl⟩
  go_wp2
  go_ret
  exact ⟨rfl, Below.then hb1 hb2⟩
theorem tab_below {w w' : World} (h : Lib.TabIs Tryz.prog w "internal/strconv.uint64pow10" .u64 Lib.pow10Tab) (hb : Below w.heap.size w w') : Lib.TabIs Tryz.prog w' "internal/strconv.uint64pow10" .u64 Lib.pow10Tab :=
  Joins.tab_stays (show Tryz.prog.globalNamed "internal/strconv.uint64pow10" = some 4 by kernel_rfl) h hb (Nat.le_refl _)
end Go.Proofs.YtnpdjddebeipiaaGreatDoor
