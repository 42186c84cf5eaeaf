/- A size rounded, noughts behind: xnum's roundTo and padRight, and what stands ahead of the point. -/
import Derived.Test.YtfgifocgkiploaaGreatDoorNumPad
namespace Go.Proofs.YtfgifocgkiploaaGreatDoor
open Go.RowKit
set_option maxHeartbeats 1000000 in
theorem padRight_any (s : ByteArray) (n : Nat) (w : World) (hs : s.size ≤ 1000000) (hn : n ≤ 1000000) :
    Calls Tryz.prog 29 #[.string s, .int .i64 (n : Int)] w fun e w' => e = .returned (.string (s ++ (⟨(Lib.repeatL [48] (n - s.size)).toArray⟩ : ByteArray))) ∧ Below w.heap.size w w' := by
  have HR := hide (fun w => Tryz.strings_Repeat ⟨#[48]⟩ (n - s.size) w (by omega) (by show 1 * (n - s.size) ≤ _; omega))
  have e1 : max ((n : Int) - (s.size : Int)) 0 = ((n - s.size : Nat) : Int) := by omega
  go_enter Tryz.func29, Tryz.ntmps29
  go_wp2_with fail
  refine (unhide HR _).mono ?_
  rintro e w1 ⟨rfl, hb⟩
  have hsz : (⟨(Lib.repeatL [48] (n - s.size)).toArray⟩ : ByteArray).size ≤ 1000000 := by
    show (Lib.repeatL [48] (n - s.size)).toArray.size ≤ 1000000
    simp [Lib.repeatL_length]
    omega
  generalize hR : (⟨(Lib.repeatL [48] (n - s.size)).toArray⟩ : ByteArray) = R at *
  have HRR := hide hR
  clear hR
  go_wp2
  go_ret
  exact ⟨by rw [unhide HRR]; rfl, hb⟩
end Go.Proofs.YtfgifocgkiploaaGreatDoor
