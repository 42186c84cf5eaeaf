/- Sums, differences and rests of numbers of whatever kind, right or not: xnum's Add, Sub, Mod. -/
import Derived.Test.YtnpdjddebeipiaaGreatDoorNumMul
import Derived.Test.YtnpdjddebeipiaaGreatDoorNumMath
namespace Go.Proofs.YtnpdjddebeipiaaGreatDoor
open Go.RowKit
attribute [local go_sem ↓] Go.wp_at_zero Go.wp_at_succ
set_option maxRecDepth 100000 in
set_option maxHeartbeats 1000000 in
theorem add_gen (k v l u s : Int) (w : World) (hk1 : (k == 1) = false) (hl1 : (l == 1) = false) (hik : infB k = false) (hil : infB l = false) (h1 : -9223372036854775808 ≤ s) (h2 : s ≤ 9223372036854775807) (hw : wrap64 (v + u) = s) :
    Calls Tryz.prog 4 #[.agg #[.int .i64 k, .int .i64 v], .agg #[.int .i64 l, .int .i64 u]] w fun e w' => e = .returned (.agg #[.int .i64 (signK (decide (s < 0)) s.natAbs), .int .i64 (signN (decide (s < 0)) s.natAbs)]) ∧ Below w.heap.size w w' := by
  have hn1 : s.natAbs < 18446744073709551616 := by omega
  have HS := hide (fun w => sizeOf_any s w h1 h2)
  have HG := hide (fun w => signed_any (decide (s < 0)) s.natAbs w hn1)
  clear h1 h2 hn1
  generalize s.natAbs = n at *
  generalize signK (decide (s < 0)) n = K at *
  generalize signN (decide (s < 0)) n = U at *
  go_enter Tryz.func4, Tryz.ntmps4
  go_wp2_with (first | (go_at_call 18; refine (isNaN_any _ _ _).mono ?_; rintro e w' ⟨rfl, rfl⟩) | (go_at_call 20; refine (isInfinite_any _ _ _).mono ?_; rintro e w' ⟨rfl, rfl⟩) | (go_at_call 25; refine (isZero_any _ _ _).mono ?_; rintro e w' ⟨rfl, rfl⟩) | (go_at_call 22; refine (isBelow_any _ _ _).mono ?_; rintro e w' ⟨rfl, rfl⟩) | (go_at_call 19; refine (notANumber_any _).mono ?_; rintro e w' ⟨rfl, rfl⟩) | (go_at_call 21; refine (infinite_any _ _).mono ?_; rintro e w' ⟨rfl, rfl⟩))
  refine (unhide HS _).mono ?_
  rintro e w1 ⟨rfl, rfl⟩
  go_wp2_with fail
  refine (unhide HG _).mono ?_
  rintro e w1 ⟨rfl, hb⟩
  have hr := NumAt.below (b := w.heap.size + 1 + 1) (k := 0) (v := 0) ⟨by simp [go_sem], by simp [go_sem], by simp [go_sem], by simp [go_sem]⟩ hb
  have hfin : Below w.heap.size w w1 := Below.then (by (repeat first | exact Below.refl _ _ | assumption | refine Below.drew ?_ | refine Below.alloc ?_ (by simp <;> omega) _ | refine Below.setCell ?_ (by simp <;> omega) _)) hb
  have hP := hr.put K U
  have hB := putN_below hfin (show w.heap.size ≤ w.heap.size + 1 + 1 by omega) K U
  obtain ⟨q0, q1, q2, q3⟩ := hr
  clear hb HS HG
  go_wp2
  show bodyPost _ _ _ _ _ (putN w1 (w.heap.size + 1 + 1) K U)
  generalize putN w1 (w.heap.size + 1 + 1) K U = X at hP hB ⊢
  obtain ⟨x0, x1, _, _⟩ := hP
  refine bodyPost_ret (v := .agg #[.int .i64 K, .int .i64 U]) ?_ rfl ⟨rfl, hB⟩
  simp [results, Tryz.results4, go_sem, x0, x1]
set_option maxRecDepth 100000 in
set_option maxHeartbeats 1000000 in
theorem sub_gen (k v l u l1 nu K U : Int) (w : World) (hN : ∀ w, Calls Tryz.prog 16 #[.agg #[.int .i64 l, .int .i64 u]] w fun e w' => e = .returned (.agg #[.int .i64 l1, .int .i64 nu]) ∧ Below w.heap.size w w')
    (hA : ∀ w, Calls Tryz.prog 4 #[.agg #[.int .i64 k, .int .i64 v], .agg #[.int .i64 l1, .int .i64 nu]] w fun e w' => e = .returned (.agg #[.int .i64 K, .int .i64 U]) ∧ Below w.heap.size w w') :
    Calls Tryz.prog 5 #[.agg #[.int .i64 k, .int .i64 v], .agg #[.int .i64 l, .int .i64 u]] w fun e w' => e = .returned (.agg #[.int .i64 K, .int .i64 U]) ∧ Below w.heap.size w w' := by
  have HN := hide hN
  have HA := hide hA
  clear hN hA
  go_enter Tryz.func5, Tryz.ntmps5
  go_wp2_with fail
  have hb0 : Below w.heap.size w (((w.alloc (.cells #[.int .i64 k, .int .i64 v] 24)).alloc (.cells #[.int .i64 l, .int .i64 u] 24)).alloc (.cells #[.int .i64 0, .int .i64 0] 24)) := by
    (repeat first | exact Below.refl _ _ | assumption | refine Below.drew ?_ | refine Below.alloc ?_ (by simp <;> omega) _ | refine Below.setCell ?_ (by simp <;> omega) _)
  have hA : NumAt (((w.alloc (.cells #[.int .i64 k, .int .i64 v] 24)).alloc (.cells #[.int .i64 l, .int .i64 u] 24)).alloc (.cells #[.int .i64 0, .int .i64 0] 24)) w.heap.size k v := ⟨by simp [go_sem], by simp [go_sem], by simp [go_sem], by simp [go_sem]⟩
  have hB : NumAt (((w.alloc (.cells #[.int .i64 k, .int .i64 v] 24)).alloc (.cells #[.int .i64 l, .int .i64 u] 24)).alloc (.cells #[.int .i64 0, .int .i64 0] 24)) (w.heap.size + 1) l u := ⟨by simp [go_sem], by simp [go_sem], by simp [go_sem], by simp [go_sem]⟩
  have hR : NumAt (((w.alloc (.cells #[.int .i64 k, .int .i64 v] 24)).alloc (.cells #[.int .i64 l, .int .i64 u] 24)).alloc (.cells #[.int .i64 0, .int .i64 0] 24)) (w.heap.size + 1 + 1) 0 0 := ⟨by simp [go_sem], by simp [go_sem], by simp [go_sem], by simp [go_sem]⟩
  generalize (((w.alloc (.cells #[.int .i64 k, .int .i64 v] 24)).alloc (.cells #[.int .i64 l, .int .i64 u] 24)).alloc (.cells #[.int .i64 0, .int .i64 0] 24)) = W at hb0 hA hB hR ⊢
  have hS : W.cell? ⟨w.heap.size, 0, none⟩ = some (.int .i64 k) ∧ W.cell? ⟨w.heap.size, 1, none⟩ = some (.int .i64 v) ∧ W.cell? ⟨w.heap.size + 1, 0, none⟩ = some (.int .i64 l) ∧ W.cell? ⟨w.heap.size + 1, 1, none⟩ = some (.int .i64 u) := ⟨hA.kind, hA.val, hB.kind, hB.val⟩
  have HR := hide hR
  clear hA hB hR
  go_region_held3 (fun w' => w'.cell? ⟨w.heap.size, 0, none⟩ = some (.int .i64 k) ∧ w'.cell? ⟨w.heap.size, 1, none⟩ = some (.int .i64 v) ∧ w'.cell? ⟨w.heap.size + 1, 0, none⟩ = some (.int .i64 l) ∧ w'.cell? ⟨w.heap.size + 1, 1, none⟩ = some (.int .i64 u))
    (first | exact hS | exact hSp | exact hSq | exact hSz)
    (first
      | (go_at_call 16; refine (unhide HN _).mono ?_; rintro e wp ⟨rfl, hbp⟩; (have hSp : wp.cell? ⟨w.heap.size, 0, none⟩ = some (.int .i64 k) ∧ wp.cell? ⟨w.heap.size, 1, none⟩ = some (.int .i64 v) ∧ wp.cell? ⟨w.heap.size + 1, 0, none⟩ = some (.int .i64 l) ∧ wp.cell? ⟨w.heap.size + 1, 1, none⟩ = some (.int .i64 u) := ⟨kept_cell (w := W.drew) hbp hS.1, kept_cell (w := W.drew) hbp hS.2.1, kept_cell (w := W.drew) hbp hS.2.2.1, kept_cell (w := W.drew) hbp hS.2.2.2⟩))
      | (go_at_call 4; refine (unhide HA _).mono ?_; rintro e wq ⟨rfl, hbq⟩; (have hSq : wq.cell? ⟨w.heap.size, 0, none⟩ = some (.int .i64 k) ∧ wq.cell? ⟨w.heap.size, 1, none⟩ = some (.int .i64 v) ∧ wq.cell? ⟨w.heap.size + 1, 0, none⟩ = some (.int .i64 l) ∧ wq.cell? ⟨w.heap.size + 1, 1, none⟩ = some (.int .i64 u) := ⟨kept_cell hbq hSp.1, kept_cell hbq hSp.2.1, kept_cell hbq hSp.2.2.1, kept_cell hbq hSp.2.2.2⟩); (have hRq := ((NumAt.below (w := W.drew) ⟨(unhide HR).kind, (unhide HR).val, (unhide HR).o0, (unhide HR).o1⟩ hbp).below hbq)); obtain ⟨z0, z1, z2, z3⟩ := hRq; (have hSz : (putN wq (w.heap.size + 1 + 1) K U).cell? ⟨w.heap.size, 0, none⟩ = some (.int .i64 k) ∧ (putN wq (w.heap.size + 1 + 1) K U).cell? ⟨w.heap.size, 1, none⟩ = some (.int .i64 v) ∧ (putN wq (w.heap.size + 1 + 1) K U).cell? ⟨w.heap.size + 1, 0, none⟩ = some (.int .i64 l) ∧ (putN wq (w.heap.size + 1 + 1) K U).cell? ⟨w.heap.size + 1, 1, none⟩ = some (.int .i64 u) := by unfold putN; simp [go_sem, hSq])))
  have hRq := ((NumAt.below (w := W.drew) ⟨(unhide HR).kind, (unhide HR).val, (unhide HR).o0, (unhide HR).o1⟩ hbp).below hbq)
  have hP := hRq.put K U
  have hBf := putN_below (Below.then hb0.drew (Below.then hbp hbq)) (show w.heap.size ≤ w.heap.size + 1 + 1 by omega) K U
  clear hRq hS hSp hSq hSz z0 z1 z2 z3 HR HN HA
  go_wp2
  show bodyPost _ _ _ _ _ (putN wq (w.heap.size + 1 + 1) K U)
  generalize putN wq (w.heap.size + 1 + 1) K U = X at hP hBf ⊢
  obtain ⟨x0, x1, _, _⟩ := hP
  refine bodyPost_ret (v := .agg #[.int .i64 K, .int .i64 U]) ?_ rfl ⟨rfl, hBf⟩
  simp [results, Tryz.results5, go_sem, x0, x1]
set_option maxHeartbeats 1000000 in
theorem quotient_zero (a1 : Nat) (w : World) :
    Calls Tryz.prog 26 #[.agg #[.int .u64 0, .int .u64 (a1 : Int)], .int .u64 0] w fun e w' => e = .returned (.agg #[.int .u64 18446744073709551615, .int .u64 0]) ∧ w' = ((w.alloc (.cells #[.int .u64 0, .int .u64 (a1 : Int)] 35)).alloc (.cells #[.int .u64 18446744073709551615, .int .u64 0] 35)) := by
  go_enter Tryz.func26, Tryz.ntmps26
  go_wp2
  refine bodyPost_ret (v := .agg #[.int .u64 18446744073709551615, .int .u64 0]) (by simp [results, Tryz.results26, go_sem]) rfl ⟨rfl, ?_⟩
  rfl
set_option maxRecDepth 100000 in
set_option maxHeartbeats 4000000 in
theorem mod_gen (k v l u : Int) (va ua q r : Nat) (bv : Bool) (w : World) (hk1 : (k == 1) = false) (hl1 : (l == 1) = false) (hi : infB k = false) (hil : infB l = false) (hz : zeroB l u = false) (hbv : belowB k v = bv) (hlt : r < 18446744073709551616)
    (hV : ∀ w, Calls Tryz.prog 24 #[.int .i64 v] w fun e w' => e = .returned (.int .u64 (va : Int)) ∧ w' = w)
    (hU : ∀ w, Calls Tryz.prog 24 #[.int .i64 u] w fun e w' => e = .returned (.int .u64 (ua : Int)) ∧ w' = w)
    (hQ : ∀ w, Calls Tryz.prog 26 #[.agg #[.int .u64 0, .int .u64 (va : Int)], .int .u64 (ua : Int)] w fun e w' => e = .returned (.agg #[.int .u64 (q : Int), .int .u64 (r : Int)]) ∧ w' = ((w.alloc (.cells #[.int .u64 0, .int .u64 (va : Int)] 35)).alloc (.cells #[.int .u64 (q : Int), .int .u64 (r : Int)] 35)).drew) :
    Calls Tryz.prog 8 #[.agg #[.int .i64 k, .int .i64 v], .agg #[.int .i64 l, .int .i64 u]] w fun e w' => e = .returned (.agg #[.int .i64 (signK bv r), .int .i64 (signN bv r)]) ∧ Below w.heap.size w w' := by
  have HQ := hide hQ
  have HV := hide hV
  have HU := hide hU
  have HB := hide hbv
  have HSG := hide (fun w => signed_any bv r w hlt)
  clear hQ hV hU hbv hlt
  go_enter Tryz.func8, Tryz.ntmps8
  go_wp2_with (first | (go_at_call 18; refine (isNaN_any _ _ _).mono ?_; rintro e w' ⟨rfl, rfl⟩) | (go_at_call 20; refine (isInfinite_any _ _ _).mono ?_; rintro e w' ⟨rfl, rfl⟩) | (go_at_call 25; refine (isZero_any _ _ _).mono ?_; rintro e w' ⟨rfl, rfl⟩) | (go_at_call 22; refine (isBelow_any _ _ _).mono ?_; rintro e w' ⟨rfl, rfl⟩) | (go_at_call 19; refine (notANumber_any _).mono ?_; rintro e w' ⟨rfl, rfl⟩) | (go_at_call 21; refine (infinite_any _ _).mono ?_; rintro e w' ⟨rfl, rfl⟩))
  refine wp_named ?_
  intro W hW
  have hBW : Below w.heap.size w W := by
    rw [hW]
    (repeat first | exact Below.refl _ _ | assumption | refine Below.drew ?_ | refine Below.alloc ?_ (by simp <;> omega) _ | refine Below.setCell ?_ (by simp <;> omega) _)
  have hNa : NumAt W w.heap.size k v := by
    rw [hW]
    refine ⟨?_, ?_, ?_, ?_⟩
    all_goals simp [go_sem]
  have hNb : NumAt W (w.heap.size + 1) l u := by
    rw [hW]
    refine ⟨?_, ?_, ?_, ?_⟩
    all_goals simp [go_sem]
  have hNr : NumAt W (w.heap.size + 1 + 1) 0 0 := by
    rw [hW]
    refine ⟨?_, ?_, ?_, ?_⟩
    all_goals simp [go_sem]
  have hsz : w.heap.size + 3 ≤ W.heap.size := by
    rw [hW]; simp
  clear hW
  have HNa := hide hNa
  have HNr := hide hNr
  obtain ⟨a0, a1, a2, a3⟩ := hNa
  obtain ⟨b0, b1, b2, b3⟩ := hNb
  have hda : W.drew.cell? ⟨w.heap.size, 1, none⟩ = _ := a1
  have hdb : W.drew.cell? ⟨w.heap.size + 1, 1, none⟩ = _ := b1
  have l0 : w.heap.size < W.heap.size := by omega
  have l1 : w.heap.size + 1 < W.heap.size := by omega
  have l2 : w.heap.size + 1 + 1 < W.heap.size := by omega
  go_cut [5] (fun s5 wx => ∃ p : Nat, s5 = .pointer (some ⟨p, 0, none⟩) ∧ wx.cell? ⟨p, 1, none⟩ = some (.int .u64 (r : Int)) ∧ Below W.heap.size W wx)
  case first =>
    go_region_with (first | (go_at_call_of 24 (Value.int IntKind.i64 v); refine (unhide HV _).mono ?_; rintro e w' ⟨rfl, rfl⟩) | (go_at_call_of 24 (Value.int IntKind.i64 u); refine (unhide HU _).mono ?_; rintro e w' ⟨rfl, rfl⟩) | (go_at_call 26; refine (unhide HQ _).mono ?_; rintro e w' ⟨rfl, rfl⟩))
    all_goals (try go_wp2_with fail)
    all_goals go_meet
    all_goals
      refine ⟨_, rfl, ?_, ?_⟩
      · simp [go_sem]
      · (repeat first | exact Below.refl _ _ | assumption | refine Below.drew ?_ | refine Below.alloc ?_ (by simp <;> omega) _ | refine Below.setCell ?_ (by simp <;> omega) _)
  case rest =>
    obtain ⟨p, rfl, hp, hbx⟩ := hcut
    obtain ⟨x0, x1, x2, x3⟩ := (unhide HNa).below hbx
    obtain ⟨y0, y1, y2, y3⟩ := (unhide HNr).below hbx
    have HNw := hide ((unhide HNr).below hbx)
    have hpd : wc.drew.cell? ⟨p, 1, none⟩ = _ := hp
    have m0 : w.heap.size < wc.heap.size := Nat.lt_of_lt_of_le l0 hbx.size
    have m1 : p < wc.heap.size := block_lt_of_cell hp
    go_wp2_with fail
    go_region_with (first
      | (go_at_call 22; refine (isBelow_any _ _ _).mono ?_; rintro e w' ⟨rfl, rfl⟩; rw [unhide HB])
      | (go_at_call 23; refine (unhide HSG _).mono ?_; rintro e w' ⟨rfl, hb⟩; have hk : Below wc.heap.size wc w' := Below.then (by (repeat first | exact Below.refl _ _ | assumption | refine Below.drew ?_ | refine Below.alloc ?_ (by simp <;> omega) _ | refine Below.setCell ?_ (by simp <;> omega) _)) hb; obtain ⟨q0, q1, q2, q3⟩ := (unhide HNw).below hk; have hfin : Below w.heap.size w w' := Below.then hBW (Below.then hbx hk)))
    all_goals (try go_wp2)
    all_goals
      refine bodyPost_ret (v := .agg #[.int .i64 (signK bv r), .int .i64 (signN bv r)]) (by simp [results, Tryz.results8, go_sem, *]) rfl ⟨rfl, ?_⟩
      (repeat first | exact Below.refl _ _ | assumption | refine Below.drew ?_ | refine Below.alloc ?_ (by simp <;> omega) _ | refine Below.setCell ?_ (by simp <;> omega) _)
set_option maxRecDepth 100000 in
set_option maxHeartbeats 4000000 in
theorem mod_gen0 (k v l u : Int) (va ua q r : Nat) (bv : Bool) (w : World) (hk1 : (k == 1) = false) (hl1 : (l == 1) = false) (hi : infB k = false) (hil : infB l = false) (hz : zeroB l u = false) (hbv : belowB k v = bv) (hlt : r < 18446744073709551616)
    (hV : ∀ w, Calls Tryz.prog 24 #[.int .i64 v] w fun e w' => e = .returned (.int .u64 (va : Int)) ∧ w' = w)
    (hU : ∀ w, Calls Tryz.prog 24 #[.int .i64 u] w fun e w' => e = .returned (.int .u64 (ua : Int)) ∧ w' = w)
    (hQ : ∀ w, Calls Tryz.prog 26 #[.agg #[.int .u64 0, .int .u64 (va : Int)], .int .u64 (ua : Int)] w fun e w' => e = .returned (.agg #[.int .u64 (q : Int), .int .u64 (r : Int)]) ∧ w' = ((w.alloc (.cells #[.int .u64 0, .int .u64 (va : Int)] 35)).alloc (.cells #[.int .u64 (q : Int), .int .u64 (r : Int)] 35))) :
    Calls Tryz.prog 8 #[.agg #[.int .i64 k, .int .i64 v], .agg #[.int .i64 l, .int .i64 u]] w fun e w' => e = .returned (.agg #[.int .i64 (signK bv r), .int .i64 (signN bv r)]) ∧ Below w.heap.size w w' := by
  have HQ := hide hQ
  have HV := hide hV
  have HU := hide hU
  have HB := hide hbv
  have HSG := hide (fun w => signed_any bv r w hlt)
  clear hQ hV hU hbv hlt
  go_enter Tryz.func8, Tryz.ntmps8
  go_wp2_with (first | (go_at_call 18; refine (isNaN_any _ _ _).mono ?_; rintro e w' ⟨rfl, rfl⟩) | (go_at_call 20; refine (isInfinite_any _ _ _).mono ?_; rintro e w' ⟨rfl, rfl⟩) | (go_at_call 25; refine (isZero_any _ _ _).mono ?_; rintro e w' ⟨rfl, rfl⟩) | (go_at_call 22; refine (isBelow_any _ _ _).mono ?_; rintro e w' ⟨rfl, rfl⟩) | (go_at_call 19; refine (notANumber_any _).mono ?_; rintro e w' ⟨rfl, rfl⟩) | (go_at_call 21; refine (infinite_any _ _).mono ?_; rintro e w' ⟨rfl, rfl⟩))
  refine wp_named ?_
  intro W hW
  have hBW : Below w.heap.size w W := by
    rw [hW]
    (repeat first | exact Below.refl _ _ | assumption | refine Below.drew ?_ | refine Below.alloc ?_ (by simp <;> omega) _ | refine Below.setCell ?_ (by simp <;> omega) _)
  have hNa : NumAt W w.heap.size k v := by
    rw [hW]
    refine ⟨?_, ?_, ?_, ?_⟩
    all_goals simp [go_sem]
  have hNb : NumAt W (w.heap.size + 1) l u := by
    rw [hW]
    refine ⟨?_, ?_, ?_, ?_⟩
    all_goals simp [go_sem]
  have hNr : NumAt W (w.heap.size + 1 + 1) 0 0 := by
    rw [hW]
    refine ⟨?_, ?_, ?_, ?_⟩
    all_goals simp [go_sem]
  have hsz : w.heap.size + 3 ≤ W.heap.size := by
    rw [hW]; simp
  clear hW
  have HNa := hide hNa
  have HNr := hide hNr
  obtain ⟨a0, a1, a2, a3⟩ := hNa
  obtain ⟨b0, b1, b2, b3⟩ := hNb
  have hda : W.drew.cell? ⟨w.heap.size, 1, none⟩ = _ := a1
  have hdb : W.drew.cell? ⟨w.heap.size + 1, 1, none⟩ = _ := b1
  have l0 : w.heap.size < W.heap.size := by omega
  have l1 : w.heap.size + 1 < W.heap.size := by omega
  have l2 : w.heap.size + 1 + 1 < W.heap.size := by omega
  go_cut [5] (fun s5 wx => ∃ p : Nat, s5 = .pointer (some ⟨p, 0, none⟩) ∧ wx.cell? ⟨p, 1, none⟩ = some (.int .u64 (r : Int)) ∧ Below W.heap.size W wx)
  case first =>
    go_region_with (first | (go_at_call_of 24 (Value.int IntKind.i64 v); refine (unhide HV _).mono ?_; rintro e w' ⟨rfl, rfl⟩) | (go_at_call_of 24 (Value.int IntKind.i64 u); refine (unhide HU _).mono ?_; rintro e w' ⟨rfl, rfl⟩) | (go_at_call 26; refine (unhide HQ _).mono ?_; rintro e w' ⟨rfl, rfl⟩))
    all_goals (try go_wp2_with fail)
    all_goals go_meet
    all_goals
      refine ⟨_, rfl, ?_, ?_⟩
      · simp [go_sem]
      · (repeat first | exact Below.refl _ _ | assumption | refine Below.drew ?_ | refine Below.alloc ?_ (by simp <;> omega) _ | refine Below.setCell ?_ (by simp <;> omega) _)
  case rest =>
    obtain ⟨p, rfl, hp, hbx⟩ := hcut
    obtain ⟨x0, x1, x2, x3⟩ := (unhide HNa).below hbx
    obtain ⟨y0, y1, y2, y3⟩ := (unhide HNr).below hbx
    have HNw := hide ((unhide HNr).below hbx)
    have hpd : wc.drew.cell? ⟨p, 1, none⟩ = _ := hp
    have m0 : w.heap.size < wc.heap.size := Nat.lt_of_lt_of_le l0 hbx.size
    have m1 : p < wc.heap.size := block_lt_of_cell hp
    go_wp2_with fail
    go_region_with (first
      | (go_at_call 22; refine (isBelow_any _ _ _).mono ?_; rintro e w' ⟨rfl, rfl⟩; rw [unhide HB])
      | (go_at_call 23; refine (unhide HSG _).mono ?_; rintro e w' ⟨rfl, hb⟩; have hk : Below wc.heap.size wc w' := Below.then (by (repeat first | exact Below.refl _ _ | assumption | refine Below.drew ?_ | refine Below.alloc ?_ (by simp <;> omega) _ | refine Below.setCell ?_ (by simp <;> omega) _)) hb; obtain ⟨q0, q1, q2, q3⟩ := (unhide HNw).below hk; have hfin : Below w.heap.size w w' := Below.then hBW (Below.then hbx hk)))
    all_goals (try go_wp2)
    all_goals
      refine bodyPost_ret (v := .agg #[.int .i64 (signK bv r), .int .i64 (signN bv r)]) (by simp [results, Tryz.results8, go_sem, *]) rfl ⟨rfl, ?_⟩
      (repeat first | exact Below.refl _ _ | assumption | refine Below.drew ?_ | refine Below.alloc ?_ (by simp <;> omega) _ | refine Below.setCell ?_ (by simp <;> omega) _)
end Go.Proofs.YtnpdjddebeipiaaGreatDoor
