/- What must be whatever is asked: the law's 'live' answers true. -/
import Derived.Test.YtoeahagloobmoaaGreatDoorSortFormat
namespace Go.Proofs.YtoeahagloobmoaaGreatDoor
open Go.RowKit
theorem live27 : wrF .a 27 = [97, 97] := by decide +kernel
theorem live4 : wrF .i 4 = [105, 118] := by decide +kernel
theorem live7 : wrF (.d 2) 7 = [48, 55] := by decide +kernel
set_option maxRecDepth 100000 in
set_option maxHeartbeats 1000000 in
theorem live_any (w : World) (hE : SEnv w) :
    Calls Tryz.prog 5 #[] w fun e w' => e = .returned (.bool true) ∧ Below w.heap.size w w' := by
  have H1 := hide (show Calls Tryz.prog 10 #[.int .i64 27, .string ⟨#[97]⟩] w fun e w' => e = .returned (.tuple #[.string ⟨#[97, 97]⟩, .int .i64 0]) ∧ Below w.heap.size w w' from by
    have := format_any ⟨#[97]⟩ .a 27 w (by decide) (by decide) hE (by decide) (by rfl)
    rw [live27] at this
    exact this)
  have H2 := hide (show ∀ w, SEnv w → Calls Tryz.prog 10 #[.int .i64 4, .string ⟨#[105]⟩] w fun e w' => e = .returned (.tuple #[.string ⟨#[105, 118]⟩, .int .i64 0]) ∧ Below w.heap.size w w' from fun w hE => by
    have := format_any ⟨#[105]⟩ .i 4 w (by decide) (by decide) hE (by decide) (by rfl)
    rw [live4] at this
    exact this)
  have H3 := hide (show ∀ w, SEnv w → Calls Tryz.prog 10 #[.int .i64 7, .string ⟨#[48, 49]⟩] w fun e w' => e = .returned (.tuple #[.string ⟨#[48, 55]⟩, .int .i64 0]) ∧ Below w.heap.size w w' from fun w hE => by
    have := format_any ⟨#[48, 49]⟩ (.d 2) 7 w (by decide) (by decide) hE (by decide) (by rfl)
    rw [live7] at this
    exact this)
  have HE := hide hE
  clear hE
  go_enter Tryz.func5, Tryz.ntmps5
  go_wp2_with fail
  refine (unhide H1).mono ?_
  rintro e w1 ⟨rfl, hb1⟩
  go_wp2_with fail
  refine (unhide H2 _ ((unhide HE).below hb1)).mono ?_
  rintro e w2 ⟨rfl, hb2⟩
  have hb12 := Below.then hb1 hb2
  go_wp2_with fail
  refine (unhide H3 _ ((unhide HE).below hb12)).mono ?_
  rintro e w3 ⟨rfl, hb3⟩
  go_wp2
  go_ret
  exact ⟨rfl, Below.then hb12 hb3⟩
end Go.Proofs.YtoeahagloobmoaaGreatDoor
