/- What must be whatever is asked: the law's 'live' answers true. -/
import Derived.Test.YtnpdjddebeipiaaGreatDoorNumForm
import Derived.Test.YtnpdjddebeipiaaGreatDoorNumMath
namespace Go.Proofs.YtnpdjddebeipiaaGreatDoor
open Go.RowKit
set_option maxRecDepth 100000 in
set_option maxHeartbeats 1000000 in
theorem live_any (w : World) (hE : NumEnv w) :
    Calls Tryz.prog 10 #[] w fun e w' => e = .returned (.bool true) ∧ Below w.heap.size w w' := by
  have HE := hide hE
  clear hE
  have H1 := hide (show ∀ w, Calls Tryz.prog 31 #[.int .i64 1] w fun e w' => e = .returned (.agg #[.int .i64 0, .int .i64 1000000]) ∧ Below w.heap.size w w' from fun w => int_any 1 w (by decide) (by decide))
  have H3 := hide (show ∀ w, Calls Tryz.prog 31 #[.int .i64 3] w fun e w' => e = .returned (.agg #[.int .i64 0, .int .i64 3000000]) ∧ Below w.heap.size w w' from fun w => int_any 3 w (by decide) (by decide))
  have H5 := hide (show ∀ w, Calls Tryz.prog 31 #[.int .i64 (-5)] w fun e w' => e = .returned (.agg #[.int .i64 0, .int .i64 (-5000000)]) ∧ Below w.heap.size w w' from fun w => int_any (-5) w (by decide) (by decide))
  have H2 := hide (show ∀ w, Calls Tryz.prog 31 #[.int .i64 (-2)] w fun e w' => e = .returned (.agg #[.int .i64 0, .int .i64 (-2000000)]) ∧ Below w.heap.size w w' from fun w => int_any (-2) w (by decide) (by decide))
  have HM := hide (show ∀ w, Calls Tryz.prog 8 #[.agg #[.int .i64 0, .int .i64 (-5000000)], .agg #[.int .i64 0, .int .i64 3000000]] w fun e w' => e = .returned (.agg #[.int .i64 0, .int .i64 (-2000000)]) ∧ Below w.heap.size w w' from fun w => mod_fin (-5000000) 3000000 w (by decide) (by decide) (by decide) (by decide) (by decide))
  go_enter Tryz.func10, Tryz.ntmps10
  go_wp2_with fail
  refine (format_live _ (unhide HE)).mono ?_
  rintro e w1 ⟨rfl, hb1⟩
  go_wp2_with fail
  refine (unhide H1 _).mono ?_
  rintro e w2 ⟨rfl, hb2⟩
  go_wp2_with fail
  refine (unhide H3 _).mono ?_
  rintro e w3 ⟨rfl, hb3⟩
  go_wp2_with fail
  refine (div_live _).mono ?_
  rintro e w4 ⟨rfl, hb4⟩
  have hb04 := Below.then hb1 (Below.then hb2 (Below.then hb3 hb4))
  clear hb1 hb2 hb3 hb4
  go_wp2_with fail
  refine (text_live _ ((unhide HE).below hb04).pow).mono ?_
  rintro e w5 ⟨rfl, hb5⟩
  go_wp2_with fail
  refine (unhide H5 _).mono ?_
  rintro e w6 ⟨rfl, hb6⟩
  go_wp2_with fail
  refine (unhide H3 _).mono ?_
  rintro e w7 ⟨rfl, hb7⟩
  go_wp2_with fail
  refine (unhide HM _).mono ?_
  rintro e w8 ⟨rfl, hb8⟩
  go_wp2_with fail
  refine (unhide H2 _).mono ?_
  rintro e w9 ⟨rfl, hb9⟩
  have hb09 := Below.then hb04 (Below.then hb5 (Below.then hb6 (Below.then hb7 (Below.then hb8 hb9))))
  clear hb5 hb6 hb7 hb8 hb9 HE H1 H2 H3 H5 HM
  go_wp2
  go_ret
  exact ⟨rfl, hb09⟩
end Go.Proofs.YtnpdjddebeipiaaGreatDoor
