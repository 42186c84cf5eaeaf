/- Whole numbers, quotients and rests: xnum's Int, Div and Mod. -/
import Derived.Test.YtnpdjddebeipiaaGreatDoorNumNamed
import Derived.Deep.RegionWith
import Derived.Deep.DeepCutAuto
namespace Go.Proofs.YtnpdjddebeipiaaGreatDoor
open Go.RowKit
def intK (n : Int) : Int := if n < -1000000000000 then 3 else if 1000000000000 < n then 2 else 0
def intV (n : Int) : Int := if n < -1000000000000 then 0 else if 1000000000000 < n then 0 else n * 1000000
set_option maxHeartbeats 1000000 in
theorem int_any (n : Int) (w : World) (h1 : -9223372036854775808 ≤ n) (h2 : n ≤ 9223372036854775807) :
    Calls Tryz.prog 31 #[.int .i64 n] w fun e w' => e = .returned (.agg #[.int .i64 (intK n), .int .i64 (intV n)]) ∧ Below w.heap.size w w' := by
  unfold intK intV
  by_cases h3 : n < -1000000000000
  · have h3' : n < 0 := by omega
    simp only [if_pos h3]
    go_enter Tryz.func31, Tryz.ntmps31
    go_wp2_with (go_at_call 21; refine (infinite_any _ _).mono ?_; rintro e w' ⟨rfl, rfl⟩)
    refine bodyPost_ret (v := .agg #[.int .i64 3, .int .i64 0]) (by simp [results, Tryz.results31, go_sem, infK]) rfl ⟨rfl, ?_⟩
    (repeat first | exact Below.refl _ _ | assumption | refine Below.drew ?_ | refine Below.alloc ?_ (by simp <;> omega) _ | refine Below.setCell ?_ (by simp <;> omega) _)
  · by_cases h4 : 1000000000000 < n
    · have h4' : ¬ n < 0 := by omega
      simp only [if_neg h3, if_pos h4]
      go_enter Tryz.func31, Tryz.ntmps31
      go_wp2_with (go_at_call 21; refine (infinite_any _ _).mono ?_; rintro e w' ⟨rfl, rfl⟩)
      refine bodyPost_ret (v := .agg #[.int .i64 2, .int .i64 0]) (by simp [results, Tryz.results31, go_sem, infK]) rfl ⟨rfl, ?_⟩
      (repeat first | exact Below.refl _ _ | assumption | refine Below.drew ?_ | refine Below.alloc ?_ (by simp <;> omega) _ | refine Below.setCell ?_ (by simp <;> omega) _)
    · simp only [if_neg h3, if_neg h4]
      go_enter Tryz.func31, Tryz.ntmps31
      go_wp2
      refine bodyPost_ret (v := .agg #[.int .i64 0, .int .i64 (n * 1000000)]) (by simp [results, Tryz.results31, go_sem]) rfl ⟨rfl, ?_⟩
      (repeat first | exact Below.refl _ _ | assumption | refine Below.drew ?_ | refine Below.alloc ?_ (by simp <;> omega) _ | refine Below.setCell ?_ (by simp <;> omega) _)
set_option maxRecDepth 100000 in
set_option maxHeartbeats 4000000 in
theorem mod_fin (v u : Int) (w : World) (h1 : -9223372036854775808 ≤ v) (h2 : v ≤ 9223372036854775807) (h3 : -9223372036854775808 ≤ u) (h4 : u ≤ 9223372036854775807) (h0 : u ≠ 0) :
    Calls Tryz.prog 8 #[.agg #[.int .i64 0, .int .i64 v], .agg #[.int .i64 0, .int .i64 u]] w fun e w' => e = .returned (.agg #[.int .i64 (signK (decide (v < 0)) (v.natAbs % u.natAbs)), .int .i64 (signN (decide (v < 0)) (v.natAbs % u.natAbs))]) ∧ Below w.heap.size w w' := by
  have hz : zeroB 0 u = false := by simp [zeroB, h0]
  have hi : infB 0 = false := rfl
  have hn0 : 0 < u.natAbs := by omega
  have hn1 : u.natAbs < 18446744073709551616 := by omega
  have hn2 : v.natAbs < 18446744073709551616 := by omega
  have HQ := hide (fun w => quotient_any v.natAbs u.natAbs w hn2 hn0 hn1)
  have HV := hide (fun w => sizeOf_any v w h1 h2)
  have HU := hide (fun w => sizeOf_any u w h3 h4)
  have hlt : v.natAbs % u.natAbs < 18446744073709551616 := by have := Nat.mod_lt v.natAbs hn0; omega
  have HB := hide (show belowB 0 v = decide (v < 0) by simp [belowB])
  generalize v.natAbs / u.natAbs = q at *
  generalize v.natAbs % u.natAbs = r at *
  generalize v.natAbs = va at *
  generalize u.natAbs = ua at *
  have HSG := hide (fun w => signed_any (decide (v < 0)) r w hlt)
  go_enter Tryz.func8, Tryz.ntmps8
  go_wp2_with (first | (go_at_call 18; refine (isNaN_any _ _ _).mono ?_; rintro e w' ⟨rfl, rfl⟩) | (go_at_call 20; refine (isInfinite_any _ _ _).mono ?_; rintro e w' ⟨rfl, rfl⟩) | (go_at_call 25; refine (isZero_any _ _ _).mono ?_; rintro e w' ⟨rfl, rfl⟩) | (go_at_call 22; refine (isBelow_any _ _ _).mono ?_; rintro e w' ⟨rfl, rfl⟩) | (go_at_call 19; refine (notANumber_any _).mono ?_; rintro e w' ⟨rfl, rfl⟩) | (go_at_call 21; refine (infinite_any _ _).mono ?_; rintro e w' ⟨rfl, rfl⟩))
  refine wp_named ?_
  intro W hW
  have hBW : Below w.heap.size w W := by
    rw [hW]
    (repeat first | exact Below.refl _ _ | assumption | refine Below.drew ?_ | refine Below.alloc ?_ (by simp <;> omega) _ | refine Below.setCell ?_ (by simp <;> omega) _)
  have hNa : NumAt W w.heap.size 0 v := by
    rw [hW]
    refine ⟨?_, ?_, ?_, ?_⟩
    all_goals simp [go_sem]
  have hNb : NumAt W (w.heap.size + 1) 0 u := by
    rw [hW]
    refine ⟨?_, ?_, ?_, ?_⟩
    all_goals simp [go_sem]
  have hNr : NumAt W (w.heap.size + 1 + 1) 0 0 := by
    rw [hW]
    refine ⟨?_, ?_, ?_, ?_⟩
    all_goals simp [go_sem]
  have hsz : w.heap.size + 3 ≤ W.heap.size := by
    rw [hW]; simp
  clear hW
  have HNa := hide hNa
  have HNr := hide hNr
  obtain ⟨a0, a1, a2, a3⟩ := hNa
  obtain ⟨b0, b1, b2, b3⟩ := hNb
  have hda : W.drew.cell? ⟨w.heap.size, 1, none⟩ = _ := a1
  have hdb : W.drew.cell? ⟨w.heap.size + 1, 1, none⟩ = _ := b1
  have l0 : w.heap.size < W.heap.size := by omega
  have l1 : w.heap.size + 1 < W.heap.size := by omega
  have l2 : w.heap.size + 1 + 1 < W.heap.size := by omega
  go_cut [5] (fun s5 wx => ∃ p : Nat, s5 = .pointer (some ⟨p, 0, none⟩) ∧ wx.cell? ⟨p, 1, none⟩ = some (.int .u64 (r : Int)) ∧ Below W.heap.size W wx)
  case first =>
    go_region_with (first | (go_at_call_of 24 (Value.int IntKind.i64 v); refine (unhide HV _).mono ?_; rintro e w' ⟨rfl, rfl⟩) | (go_at_call_of 24 (Value.int IntKind.i64 u); refine (unhide HU _).mono ?_; rintro e w' ⟨rfl, rfl⟩) | (go_at_call 26; refine (unhide HQ _).mono ?_; rintro e w' ⟨rfl, rfl⟩))
    all_goals (try go_wp2_with fail)
    all_goals go_meet
    all_goals
      refine ⟨_, rfl, ?_, ?_⟩
      · simp [go_sem]
      · (repeat first | exact Below.refl _ _ | assumption | refine Below.drew ?_ | refine Below.alloc ?_ (by simp <;> omega) _ | refine Below.setCell ?_ (by simp <;> omega) _)
  case rest =>
    obtain ⟨p, rfl, hp, hbx⟩ := hcut
    obtain ⟨x0, x1, x2, x3⟩ := (unhide HNa).below hbx
    obtain ⟨y0, y1, y2, y3⟩ := (unhide HNr).below hbx
    have HNw := hide ((unhide HNr).below hbx)
    have hpd : wc.drew.cell? ⟨p, 1, none⟩ = _ := hp
    have m0 : w.heap.size < wc.heap.size := Nat.lt_of_lt_of_le l0 hbx.size
    have m1 : p < wc.heap.size := block_lt_of_cell hp
    go_wp2_with fail
    go_region_with (first
      | (go_at_call 22; refine (isBelow_any _ _ _).mono ?_; rintro e w' ⟨rfl, rfl⟩; rw [unhide HB])
      | (go_at_call 23; refine (unhide HSG _).mono ?_; rintro e w' ⟨rfl, hb⟩; have hk : Below wc.heap.size wc w' := Below.then (by (repeat first | exact Below.refl _ _ | assumption | refine Below.drew ?_ | refine Below.alloc ?_ (by simp <;> omega) _ | refine Below.setCell ?_ (by simp <;> omega) _)) hb; obtain ⟨q0, q1, q2, q3⟩ := (unhide HNw).below hk; have hfin : Below w.heap.size w w' := Below.then hBW (Below.then hbx hk)))
    all_goals (try go_wp2)
    all_goals
      refine bodyPost_ret (v := .agg #[.int .i64 (signK (decide (v < 0)) r), .int .i64 (signN (decide (v < 0)) r)]) (by simp [results, Tryz.results8, go_sem, *]) rfl ⟨rfl, ?_⟩
      (repeat first | exact Below.refl _ _ | assumption | refine Below.drew ?_ | refine Below.alloc ?_ (by simp <;> omega) _ | refine Below.setCell ?_ (by simp <;> omega) _)
end Go.Proofs.YtnpdjddebeipiaaGreatDoor
