/- XcharKinds: the walk: for every character of 32 bits the law answers true. -/
import Derived.Test.YtapehgheaododaaDoorLive
namespace Go.Proofs.YtapehgheaododaaDoor
open Go.RowKit
theorem refIsChar_same (r : Int) (hr : r.natAbs < 2 ^ 53) (w : World) :
    Calls Tryd.prog 17 #[.int .i32 r] w fun e w' => e = .returned (.bool (charB r)) ∧ w' = w := by
  rw [charB_eq r hr]; exact refIsChar_any r w
theorem refBegins_same (r : Int) (hr : r.natAbs < 2 ^ 53) (w : World) :
    Calls Tryd.prog 21 #[.int .i32 r] w fun e w' => e = .returned (.bool (beginB r)) ∧ Below w.heap.size w w' := by
  rw [beginB_eq r hr]; exact refBegins_any r w
theorem refGoesOn_same (r : Int) (hr : r.natAbs < 2 ^ 53) (w : World) :
    Calls Tryd.prog 23 #[.int .i32 r] w fun e w' => e = .returned (.bool (goesB r)) ∧ Below w.heap.size w w' := by
  rw [goesB_eq r hr]; exact refGoesOn_any r w
set_option maxHeartbeats 4000000 in
theorem kinds_walk (r : Int) (w : World) (hE : Env w) (hr : r.natAbs < 2 ^ 53) :
    Calls Tryd.prog 6 #[.int .i32 r] w fun e w' => e = .returned (.bool true) ∧ Below w.heap.size w w' := by
  have HE := hide hE
  have HR := hide hr
  have h1 := goes_of_begins r
  have h2 := char_of_goes r hr
  clear hE hr
  go_enter Tryd.func6, Tryd.ntmps6
  go_wp2_with fail
  refine (live_any _ (unhide HE)).mono ?_
  rintro e w1 ⟨rfl, hb1⟩
  have H1 := hide h1
  have H2 := hide h2
  clear h1 h2
  go_wp2_with (first
    | (go_at_call 16; refine (isChar_any _ _).mono ?_; rintro e w' ⟨rfl, rfl⟩)
    | (go_at_call 17; refine (refIsChar_same _ (unhide HR) _).mono ?_; rintro e w' ⟨rfl, rfl⟩)
    | (go_at_call 18; refine (isBlank_any _ _).mono ?_; rintro e w' ⟨rfl, rfl⟩)
    | (go_at_call 19; refine (refIsBlank_any _ _).mono ?_; rintro e w' ⟨rfl, rfl⟩))
  refine (begins_any r _).mono ?_
  rintro e w2 ⟨rfl, hb2⟩
  go_wp2_with fail
  refine (refBegins_same r (unhide HR) _).mono ?_
  rintro e w3 ⟨rfl, hb3⟩
  go_wp2_with fail
  refine (goesOn_any r _).mono ?_
  rintro e w4 ⟨rfl, hb4⟩
  go_wp2_with fail
  refine (refGoesOn_same r (unhide HR) _).mono ?_
  rintro e w5 ⟨rfl, hb5⟩
  have hb05 := Below.then (Below.then (Below.then (Below.then hb1 hb2) hb3) hb4) hb5
  clear hb2 hb3 hb4 hb5
  go_wp2_with fail
  refine (begins_any r _).mono ?_
  rintro e w6 ⟨rfl, hb6⟩
  have fin : ∀ (e : Ending) (W : World), Below w6.heap.size w6 W → e = .returned (.bool true) → e = .returned (.bool true) ∧ Below w.heap.size w W := fun e W h he => ⟨he, Below.then (Below.then hb05 hb6) h⟩
  cases hB : beginB r
  · go_wp2_with fail
    refine (goesOn_any r _).mono ?_
    rintro e w7 ⟨rfl, hb7⟩
    cases hG : goesB r
    · go_wp2
      go_ret
      exact fin _ _ hb7 rfl
    · have hC := unhide H2 hG
      go_wp2_with (go_at_call 16; refine (isChar_any _ _).mono ?_; rintro e w' ⟨rfl, rfl⟩)
      go_ret
      exact fin _ _ hb7 rfl
  · have hG := unhide H1 hB
    have hC := unhide H2 hG
    go_wp2_with fail
    refine (goesOn_any r _).mono ?_
    rintro e w7 ⟨rfl, hb7⟩
    go_wp2_with fail
    refine (goesOn_any r _).mono ?_
    rintro e w8 ⟨rfl, hb8⟩
    go_wp2_with (go_at_call 16; refine (isChar_any _ _).mono ?_; rintro e w' ⟨rfl, rfl⟩)
    go_ret
    exact fin _ _ (Below.then hb7 hb8) rfl
end Go.Proofs.YtapehgheaododaaDoor
