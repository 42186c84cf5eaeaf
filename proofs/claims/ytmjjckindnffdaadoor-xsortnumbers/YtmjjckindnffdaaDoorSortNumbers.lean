/- The law XsortNumbers. -/
import Derived.Test.YtmjjckindnffdaaDoorSortLive
import Derived.Test.YtmjjckindnffdaaDoorSortRefR
namespace Go.Proofs.YtmjjckindnffdaaDoor
open Go.RowKit
/-- Roman numbers and letters of every number. -/
def romX (x : Int) : ByteArray := if 1 ≤ x ∧ x ≤ 3999 then ⟨(romP x.toNat).toArray⟩ else ⟨#[]⟩
def letX (x : Int) : ByteArray := if 1 ≤ x then ⟨(letP x.toNat).toArray⟩ else ⟨#[]⟩
theorem roman_all (x : Int) (w : World) : Calls Tryd.prog 15 #[.int .i64 x] w fun e w' => e = .returned (.string (romX x)) ∧ Below w.heap.size w w' := by
  unfold romX
  by_cases h : 1 ≤ x ∧ x ≤ 3999
  · rw [if_pos h]
    have := roman_any x.toNat w (by omega) (by omega)
    rw [show ((x.toNat : Nat) : Int) = x by omega] at this
    exact this
  · rw [if_neg h]
    exact roman_none x w (by omega)
theorem refRoman_all (x : Int) (w : World) : Calls Tryd.prog 16 #[.int .i64 x] w fun e w' => e = .returned (.string (romX x)) ∧ Below w.heap.size w w' := by
  unfold romX
  by_cases h : 1 ≤ x ∧ x ≤ 3999
  · rw [if_pos h]
    have := refRoman_any x.toNat w (by omega) (by omega)
    rw [show ((x.toNat : Nat) : Int) = x by omega] at this
    exact this
  · rw [if_neg h]
    exact refRoman_none x w (by omega)
theorem letters_all (x : Int) (w : World) (hx : x ≤ 9223372036854775807) : Calls Tryd.prog 17 #[.int .i64 x] w fun e w' => e = .returned (.string (letX x)) ∧ Below w.heap.size w w' := by
  unfold letX
  by_cases h : 1 ≤ x
  · rw [if_pos h]
    have := letters_any x.toNat w (by omega)
    rw [show ((x.toNat : Nat) : Int) = x by omega] at this
    exact this
  · rw [if_neg h]
    exact letters_neg x w (by omega)
theorem refLetters_all (x : Int) (w : World) (hx : x ≤ 9223372036854775807) : Calls Tryd.prog 18 #[.int .i64 x] w fun e w' => e = .returned (.string (letX x)) ∧ Below w.heap.size w w' := by
  unfold letX
  by_cases h : 1 ≤ x
  · rw [if_pos h]
    have := refLetters_any x.toNat w (by omega)
    rw [show ((x.toNat : Nat) : Int) = x by omega] at this
    exact this
  · rw [if_neg h]
    exact refLetters_neg x w (by omega)
theorem letX_ne (x : Int) (h : 1 ≤ x) : ((letX x).toList == (letX (x + 1)).toList) = false := by
  unfold letX
  rw [if_pos h, if_pos (by omega), ByteArray.toList_eq, ByteArray.toList_eq]
  cases hb : (List.toArray (letP x.toNat)).toList == (List.toArray (letP (x + 1).toNat)).toList with
  | false => rfl
  | true =>
    have e : letP x.toNat = letP (x + 1).toNat := by simpa using hb
    have := letP_inj e
    omega
/-- The number that the law asks of. -/
theorem num_cases (a : Int) (h1 : -9223372036854775808 ≤ a) (h2 : a ≤ 9223372036854775807) :
    1099511627776 < a ∧ (∃ x, a.tmod 1099511627776 = x ∧ 0 ≤ x ∧ x ≤ 1099511627776 ∧ ¬ x < -1099511627776) ∨ ¬ 1099511627776 < a ∧ a < -1099511627776 ∨ ¬ 1099511627776 < a ∧ ¬ a < -1099511627776 := by
  by_cases h : 1099511627776 < a
  · refine Or.inl ⟨h, _, rfl, ?_⟩
    have e : a.tmod 1099511627776 = a % 1099511627776 := Int.tmod_eq_emod_of_nonneg (by omega)
    rw [e]
    omega
  · by_cases h' : a < -1099511627776
    · exact Or.inr (Or.inl ⟨h, h'⟩)
    · exact Or.inr (Or.inr ⟨h, h'⟩)
set_option maxRecDepth 100000 in
set_option maxHeartbeats 2000000 in
theorem numbers_walk (a : Int) (w : World) (hE : SEnv w) (h1 : -9223372036854775808 ≤ a) (h2 : a ≤ 9223372036854775807) :
    Calls Tryd.prog 6 #[.int .i64 a] w fun e w' => e = .returned (.bool true) ∧ Below w.heap.size w w' := by
  have key : ∀ x : Int, x ≤ 1099511627776 → Hid ((∀ w, Calls Tryd.prog 15 #[.int .i64 x] w fun e w' => e = .returned (.string (romX x)) ∧ Below w.heap.size w w') ∧ (∀ w, Calls Tryd.prog 16 #[.int .i64 x] w fun e w' => e = .returned (.string (romX x)) ∧ Below w.heap.size w w') ∧ (∀ w, Calls Tryd.prog 17 #[.int .i64 x] w fun e w' => e = .returned (.string (letX x)) ∧ Below w.heap.size w w') ∧ (∀ w, Calls Tryd.prog 18 #[.int .i64 x] w fun e w' => e = .returned (.string (letX x)) ∧ Below w.heap.size w w') ∧ (∀ w, Calls Tryd.prog 17 #[.int .i64 (x + 1)] w fun e w' => e = .returned (.string (letX (x + 1))) ∧ Below w.heap.size w w')) := fun x hx =>
    hide ⟨roman_all x, refRoman_all x, fun w => letters_all x w (by omega), fun w => refLetters_all x w (by omega), fun w => letters_all (x + 1) w (by omega)⟩
  have HV := hide (live_any w hE)
  clear hE
  rcases num_cases a h1 h2 with ⟨c1, x, ex, x0, x1, c2⟩ | ⟨c1, c2⟩ | ⟨c1, c2⟩
  · have HK := key x x1
    by_cases hx : x < 1
    · clear key h1 h2
      go_enter Tryd.func6, Tryd.ntmps6
      go_wp2_with fail
      refine (unhide HV).mono ?_
      rintro e w1 ⟨rfl, hb1⟩
      go_wp2_with fail
      refine ((unhide HK).1 _).mono ?_
      rintro e w2 ⟨rfl, hb2⟩
      go_wp2_with fail
      refine ((unhide HK).2.1 _).mono ?_
      rintro e w3 ⟨rfl, hb3⟩
      go_wp2_with fail
      refine ((unhide HK).2.2.1 _).mono ?_
      rintro e w4 ⟨rfl, hb4⟩
      go_wp2_with fail
      refine ((unhide HK).2.2.2.1 _).mono ?_
      rintro e w5 ⟨rfl, hb5⟩
      go_wp2_with fail
      go_ret
      exact ⟨rfl, Below.then hb1 (Below.then hb2 (Below.then hb3 (Below.then hb4 hb5)))⟩
    · have hne := letX_ne x (by omega)
      have ew : wrap64 (x + 1) = x + 1 := wrap_same _ (by omega) (by omega)
      have ei : IntKind.i64.wrap (x + 1) = x + 1 := (i64_is _).trans ew
      clear key h1 h2
      go_enter Tryd.func6, Tryd.ntmps6
      go_wp2_with fail
      refine (unhide HV).mono ?_
      rintro e w1 ⟨rfl, hb1⟩
      go_wp2_with fail
      refine ((unhide HK).1 _).mono ?_
      rintro e w2 ⟨rfl, hb2⟩
      go_wp2_with fail
      refine ((unhide HK).2.1 _).mono ?_
      rintro e w3 ⟨rfl, hb3⟩
      go_wp2_with fail
      refine ((unhide HK).2.2.1 _).mono ?_
      rintro e w4 ⟨rfl, hb4⟩
      go_wp2_with fail
      refine ((unhide HK).2.2.2.1 _).mono ?_
      rintro e w5 ⟨rfl, hb5⟩
      go_wp2_with fail
      refine ((unhide HK).2.2.1 _).mono ?_
      rintro e w6 ⟨rfl, hb6⟩
      go_wp2_with fail
      refine ((unhide HK).2.2.2.2 _).mono ?_
      rintro e w7 ⟨rfl, hb7⟩
      go_wp2_with fail
      go_ret
      exact ⟨rfl, Below.then hb1 (Below.then hb2 (Below.then hb3 (Below.then hb4 (Below.then hb5 (Below.then hb6 hb7)))))⟩
  · have HK := key (-1) (by omega)
    clear key h1 h2
    go_enter Tryd.func6, Tryd.ntmps6
    go_wp2_with fail
    refine (unhide HV).mono ?_
    rintro e w1 ⟨rfl, hb1⟩
    go_wp2_with fail
    refine ((unhide HK).1 _).mono ?_
    rintro e w2 ⟨rfl, hb2⟩
    go_wp2_with fail
    refine ((unhide HK).2.1 _).mono ?_
    rintro e w3 ⟨rfl, hb3⟩
    go_wp2_with fail
    refine ((unhide HK).2.2.1 _).mono ?_
    rintro e w4 ⟨rfl, hb4⟩
    go_wp2_with fail
    refine ((unhide HK).2.2.2.1 _).mono ?_
    rintro e w5 ⟨rfl, hb5⟩
    go_wp2_with fail
    go_ret
    exact ⟨rfl, Below.then hb1 (Below.then hb2 (Below.then hb3 (Below.then hb4 hb5)))⟩
  · have HK := key a (by omega)
    by_cases hx : a < 1
    · clear key h1 h2
      go_enter Tryd.func6, Tryd.ntmps6
      go_wp2_with fail
      refine (unhide HV).mono ?_
      rintro e w1 ⟨rfl, hb1⟩
      go_wp2_with fail
      refine ((unhide HK).1 _).mono ?_
      rintro e w2 ⟨rfl, hb2⟩
      go_wp2_with fail
      refine ((unhide HK).2.1 _).mono ?_
      rintro e w3 ⟨rfl, hb3⟩
      go_wp2_with fail
      refine ((unhide HK).2.2.1 _).mono ?_
      rintro e w4 ⟨rfl, hb4⟩
      go_wp2_with fail
      refine ((unhide HK).2.2.2.1 _).mono ?_
      rintro e w5 ⟨rfl, hb5⟩
      go_wp2_with fail
      go_ret
      exact ⟨rfl, Below.then hb1 (Below.then hb2 (Below.then hb3 (Below.then hb4 hb5)))⟩
    · have hne := letX_ne a (by omega)
      have ew : wrap64 (a + 1) = a + 1 := wrap_same _ (by omega) (by omega)
      have ei : IntKind.i64.wrap (a + 1) = a + 1 := (i64_is _).trans ew
      clear key h1 h2
      go_enter Tryd.func6, Tryd.ntmps6
      go_wp2_with fail
      refine (unhide HV).mono ?_
      rintro e w1 ⟨rfl, hb1⟩
      go_wp2_with fail
      refine ((unhide HK).1 _).mono ?_
      rintro e w2 ⟨rfl, hb2⟩
      go_wp2_with fail
      refine ((unhide HK).2.1 _).mono ?_
      rintro e w3 ⟨rfl, hb3⟩
      go_wp2_with fail
      refine ((unhide HK).2.2.1 _).mono ?_
      rintro e w4 ⟨rfl, hb4⟩
      go_wp2_with fail
      refine ((unhide HK).2.2.2.1 _).mono ?_
      rintro e w5 ⟨rfl, hb5⟩
      go_wp2_with fail
      refine ((unhide HK).2.2.1 _).mono ?_
      rintro e w6 ⟨rfl, hb6⟩
      go_wp2_with fail
      refine ((unhide HK).2.2.2.2 _).mono ?_
      rintro e w7 ⟨rfl, hb7⟩
      go_wp2_with fail
      go_ret
      exact ⟨rfl, Below.then hb1 (Below.then hb2 (Below.then hb3 (Below.then hb4 (Below.then hb5 (Below.then hb6 hb7)))))⟩
end Go.Proofs.YtmjjckindnffdaaDoor
