/- Numbers are compared, and ordered: the law XnumOrders. -/
import Derived.Test.YtigbaoadnonjfaaGreatDoorNumRefs
import Derived.Test.YtigbaoadnonjfaaGreatDoorNumLive
namespace Go.Proofs.YtigbaoadnonjfaaGreatDoor
open Go.RowKit
theorem less_ref {k v l u : Int} (h1 : rightB k v = true) (h2 : rightB l u = true) : lessB k v l u = rless k v l u := by
  rw [less_key h1 h2]
  unfold rless
  rcases right_cases h1 with ⟨rfl, a1, a2⟩ | ⟨rfl, rfl⟩ | ⟨rfl, rfl⟩ | ⟨rfl, rfl⟩ <;> rcases right_cases h2 with ⟨rfl, b1, b2⟩ | ⟨rfl, rfl⟩ | ⟨rfl, rfl⟩ | ⟨rfl, rfl⟩
  all_goals simp [rrank, keyN]
  all_goals (try omega)
theorem cmp_ref {k v l u : Int} (h1 : rightB k v = true) (h2 : rightB l u = true) (n1 : (k == 1) = false) (n2 : (l == 1) = false) : cmpV k v l u = rcmp k v l u := by
  unfold cmpV rcmp
  rcases right_cases h1 with ⟨rfl, a1, a2⟩ | ⟨rfl, rfl⟩ | ⟨rfl, rfl⟩ | ⟨rfl, rfl⟩ <;> rcases right_cases h2 with ⟨rfl, b1, b2⟩ | ⟨rfl, rfl⟩ | ⟨rfl, rfl⟩ | ⟨rfl, rfl⟩
  all_goals first | (simp at n1; done) | (simp at n2; done) | simp [rrank, infB, rankN]
  all_goals first | rfl | decide
set_option maxRecDepth 100000 in
set_option maxHeartbeats 2000000 in
theorem orders_core (k v l u n : Int) (ok : Bool) (w : World) (hE : NumEnv w)
    (HC : ∀ w, Calls Tryz.prog 12 #[.agg #[.int .i64 k, .int .i64 v], .agg #[.int .i64 l, .int .i64 u]] w fun e w' => e = .returned (.tuple #[.int .i64 n, .bool ok]) ∧ Below w.heap.size w w')
    (HR : (rightB k v && rightB l u) = true → ∀ w, Calls Tryz.prog 13 #[.agg #[.int .i64 k, .int .i64 v], .agg #[.int .i64 l, .int .i64 u]] w fun e w' => e = .returned (.tuple #[.int .i64 n, .bool ok]) ∧ Below w.heap.size w w') :
    Calls Tryz.prog 4 #[.agg #[.int .i64 k, .int .i64 v], .agg #[.int .i64 l, .int .i64 u]] w fun e w' => e = .returned (.bool true) ∧ Below w.heap.size w w' := by
  have HE := hide hE
  have HC' := hide HC
  have HR' := hide HR
  clear hE HC HR
  go_enter Tryz.func4, Tryz.ntmps4
  go_wp2_with fail
  have hb0 : Below w.heap.size w ((w.alloc (.cells #[.int .i64 k, .int .i64 v] 24)).alloc (.cells #[.int .i64 l, .int .i64 u] 24)) := by
    (repeat first | exact Below.refl _ _ | assumption | refine Below.drew ?_ | refine Below.alloc ?_ (by simp <;> omega) _ | refine Below.setCell ?_ (by simp <;> omega) _)
  have hS := two_new w k v l u
  generalize ((w.alloc (.cells #[.int .i64 k, .int .i64 v] 24)).alloc (.cells #[.int .i64 l, .int .i64 u] 24)) = W at hb0 hS ⊢
  refine (unhide HC' _).mono ?_
  rintro e w1 ⟨rfl, hb1⟩
  have hS1 := four_below hS hb1
  have hb01 := Below.then hb0 hb1
  have HS1 := hide hS1
  obtain ⟨a0, a1, b0, b1⟩ := hS1
  clear hS hb0 hb1
  go_wp2_with fail
  refine (less_any k v l u _).mono ?_
  rintro e w2 ⟨rfl, hb2⟩
  have hS2 := four_below (unhide HS1) hb2
  have hb02 := Below.then hb01 hb2
  clear a0 a1 b0 b1 HS1 hb01 hb2
  have HS2 := hide hS2
  obtain ⟨a0, a1, b0, b1⟩ := hS2
  go_wp2_with fail
  refine (right_any k v l u _).mono ?_
  rintro e w3 ⟨rfl, hb3⟩
  have hS3 := four_below (unhide HS2) hb3
  have hb03 := Below.then hb02 hb3
  clear a0 a1 b0 b1 HS2 hb02 hb3
  have HS3 := hide hS3
  obtain ⟨a0, a1, b0, b1⟩ := hS3
  cases hr : (rightB k v && rightB l u)
  · clear HR' HC'
    go_wp2_with fail
    refine (live_any _ ((unhide HE).below hb03)).mono ?_
    rintro e w4 ⟨rfl, hb4⟩
    go_wp2
    go_ret
    exact ⟨rfl, Below.then hb03 hb4⟩
  · have hr' : rightB k v = true ∧ rightB l u = true := by simpa using hr
    have hlr := less_ref hr'.1 hr'.2
    have HRR := hide (unhide HR' hr)
    clear HC' HR' hr hr'
    go_wp2_with fail
    refine (unhide HRR _).mono ?_
    rintro e w4 ⟨rfl, hb4⟩
    have hS4 := four_below (unhide HS3) hb4
    have hb04 := Below.then hb03 hb4
    clear a0 a1 b0 b1 HS3 hb03 hb4 HRR
    have HS4 := hide hS4
    go_wp2_with fail
    refine (live_any _ ((unhide HE).below hb04)).mono ?_
    rintro e w5 ⟨rfl, hb5⟩
    have hS5 := four_below (unhide HS4) hb5
    have hb05 := Below.then hb04 hb5
    clear hS4 HS4 hb04 hb5 HE
    obtain ⟨a0, a1, b0, b1⟩ := hS5
    go_wp2_with fail
    all_goals
      refine (refLess_any k v l u _).mono ?_
      rintro e w6 ⟨rfl, hb6⟩
      go_wp2
      go_ret
      exact ⟨by simp, Below.then hb05 hb6⟩
theorem orders_walk (k v l u : Int) (w : World) (hE : NumEnv w) :
    Calls Tryz.prog 4 #[.agg #[.int .i64 k, .int .i64 v], .agg #[.int .i64 l, .int .i64 u]] w fun e w' => e = .returned (.bool true) ∧ Below w.heap.size w w' := by
  by_cases hn : ((k == 1) || (l == 1)) = true
  · exact orders_core k v l u 0 false w hE (fun w => compare_nan k v l u w hn) (fun _ w => refCompare_nan k v l u w hn)
  · have h1 : (k == 1) = false := by cases h : (k == 1) <;> simp_all
    have h2 : (l == 1) = false := by cases h : (l == 1) <;> simp_all
    refine orders_core k v l u (cmpV k v l u) true w hE (fun w => compare_any k v l u w h1 h2) (fun hr w => ?_)
    have hr' : rightB k v = true ∧ rightB l u = true := by simpa using hr
    rw [cmp_ref hr'.1 hr'.2 h1 h2]
    exact refCompare_any k v l u w h1 h2
end Go.Proofs.YtigbaoadnonjfaaGreatDoor
