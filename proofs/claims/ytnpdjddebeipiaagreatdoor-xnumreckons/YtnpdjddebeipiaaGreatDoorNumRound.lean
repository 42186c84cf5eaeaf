/- A size rounded, noughts behind: xnum's roundTo and padRight, and what stands ahead of the point. -/
import Derived.Test.YtnpdjddebeipiaaGreatDoorNumPad
namespace Go.Proofs.YtnpdjddebeipiaaGreatDoor
open Go.RowKit
set_option maxHeartbeats 1000000 in
theorem padRight_any (s : ByteArray) (n : Nat) (w : World) (hs : s.size ≤ 1000000) (hn : n ≤ 1000000) :
    Calls Tryz.prog 55 #[.string s, .int .i64 (n : Int)] w fun e w' => e = .returned (.string (s ++ (⟨(Lib.repeatL [48] (n - s.size)).toArray⟩ : ByteArray))) ∧ Below w.heap.size w w' := by
  have HR := hide (fun w => Tryz.strings_Repeat ⟨#[48]⟩ (n - s.size) w (by omega) (by show 1 * (n - s.size) ≤ _; omega))
  have e1 : max ((n : Int) - (s.size : Int)) 0 = ((n - s.size : Nat) : Int) := by omega
  go_enter Tryz.func55, Tryz.ntmps55
  go_wp2_with fail
  refine (unhide HR _).mono ?_
  rintro e w1 ⟨rfl, hb⟩
  have hsz : (⟨(Lib.repeatL [48] (n - s.size)).toArray⟩ : ByteArray).size ≤ 1000000 := by
    show (Lib.repeatL [48] (n - s.size)).toArray.size ≤ 1000000
    simp [Lib.repeatL_length]
    omega
  generalize hR : (⟨(Lib.repeatL [48] (n - s.size)).toArray⟩ : ByteArray) = R at *
  have HRR := hide hR
  clear hR
  go_wp2
  go_ret
  exact ⟨by rw [unhide HRR]; rfl, hb⟩
set_option maxHeartbeats 1000000 in
theorem roundTo_live (w : World) :
    Calls Tryz.prog 53 #[.int .u64 1234567000, .int .i64 2] w fun e w' => e = .returned (.int .u64 1234570000) ∧ w' = w := by
  go_enter Tryz.func53, Tryz.ntmps53
  go_wp2_with fail
  go_loop [5, 8] (fun u i => ∃ k : Nat, k ≤ 4 ∧ i = .int .i64 (k : Int) ∧ u = .int .u64 ((10 ^ k : Nat) : Int)) (fun _ i => (4 - intOf i).toNat)
  case atStart => exact ⟨0, by omega, rfl, rfl⟩
  case round =>
    obtain ⟨k, hk, rfl, rfl⟩ := hrel
    rcases (show k = 0 ∨ k = 1 ∨ k = 2 ∨ k = 3 ∨ k = 4 by omega) with rfl | rfl | rfl | rfl | rfl
    · go_wp2
      exact ⟨⟨1, by omega, rfl, rfl⟩, by decide⟩
    · go_wp2
      exact ⟨⟨2, by omega, rfl, rfl⟩, by decide⟩
    · go_wp2
      exact ⟨⟨3, by omega, rfl, rfl⟩, by decide⟩
    · go_wp2
      exact ⟨⟨4, by omega, rfl, rfl⟩, by decide⟩
    · go_wp2
      go_ret
      exact ⟨rfl, rfl⟩
end Go.Proofs.YtnpdjddebeipiaaGreatDoor
