/- A product of Fin numbers: xnum's quotient of 128 bits by a million, and Mul. -/
import Derived.Test.YtmaefnmjfkbplaaGreatDoorNumDiv64
import Derived.Test.YtmaefnmjfkbplaaGreatDoorNumDiv
import Derived.Test.YtmaefnmjfkbplaaGreatDoorNumInv
namespace Go.Proofs.YtmaefnmjfkbplaaGreatDoor
open Go.RowKit
attribute [local go_sem ↓] Go.wp_at_zero Go.wp_at_succ
/-- What quotient tells of a number of 128 bits by a million: the whole part, and the rest. -/
def quotP (n : Nat) : Nat := if n / 18446744073709551616 < 1000000 then n / 1000000 else 18446744073709551615
def quotR (n : Nat) : Nat := if n / 18446744073709551616 < 1000000 then n % 1000000 else 0
theorem quotP_lt (n : Nat) : quotP n < 18446744073709551616 := by
  unfold quotP
  split
  · omega
  · decide
set_option maxRecDepth 100000 in
set_option maxHeartbeats 1000000 in
theorem quotient_wide (hi lo P R : Nat) (w : World) (h1 : hi < 1000000) (hd : ∀ w, Calls Tryz.prog 58 #[.int .u64 (hi : Int), .int .u64 (lo : Int), .int .u64 1000000] w fun e w' => e = .returned (.tuple #[.int .u64 (P : Int), .int .u64 (R : Int)]) ∧ Below w.heap.size w w') :
    Calls Tryz.prog 34 #[.agg #[.int .u64 (hi : Int), .int .u64 (lo : Int)], .int .u64 1000000] w fun e w' => e = .returned (.agg #[.int .u64 (P : Int), .int .u64 (R : Int)]) ∧ Below w.heap.size w w' := by
  have HD := hide hd
  clear hd
  have h1' : ¬ (1000000 : Int) ≤ (hi : Int) := by omega
  clear h1
  go_enter Tryz.func34, Tryz.ntmps34
  go_wp2_with fail
  refine (unhide HD _).mono ?_
  rintro e w1 ⟨rfl, hb⟩
  have hfin : Below w.heap.size w w1 := Below.then (by (repeat first | exact Below.refl _ _ | assumption | refine Below.drew ?_ | refine Below.alloc ?_ (by simp <;> omega) _ | refine Below.setCell ?_ (by simp <;> omega) _)) hb
  obtain ⟨q0, q1, q2, q3⟩ := PartsAt.below (b := w.heap.size + 1) ⟨by simp [go_sem], by simp [go_sem], by simp [go_sem], by simp [go_sem]⟩ hb
  clear hb HD h1'
  go_wp2
  refine bodyPost_ret (v := .agg #[.int .u64 (P : Int), .int .u64 (R : Int)]) ?_ rfl ⟨rfl, ?_⟩
  · simp [results, Tryz.results34, go_sem, *]
  · exact (hfin.setCell (by dsimp only; omega) _).setCell (by dsimp only; omega) _
set_option maxHeartbeats 1000000 in
theorem quotient_great (hi lo : Nat) (w : World) (h1 : 1000000 ≤ hi) :
    Calls Tryz.prog 34 #[.agg #[.int .u64 (hi : Int), .int .u64 (lo : Int)], .int .u64 1000000] w fun e w' => e = .returned (.agg #[.int .u64 18446744073709551615, .int .u64 0]) ∧ Below w.heap.size w w' := by
  have h1' : (1000000 : Int) ≤ (hi : Int) := by omega
  clear h1
  go_enter Tryz.func34, Tryz.ntmps34
  go_wp2
  refine bodyPost_ret (v := .agg #[.int .u64 18446744073709551615, .int .u64 0]) (by simp [results, Tryz.results34, go_sem]) rfl ⟨rfl, ?_⟩
  (repeat first | exact Below.refl _ _ | assumption | refine Below.drew ?_ | refine Below.alloc ?_ (by simp <;> omega) _ | refine Below.setCell ?_ (by simp <;> omega) _)
theorem quotient_mil (n : Nat) (w : World) :
    Calls Tryz.prog 34 #[wideV n, .int .u64 1000000] w fun e w' => e = .returned (.agg #[.int .u64 (quotP n : Int), .int .u64 (quotR n : Int)]) ∧ Below w.heap.size w w' := by
  have e1 : (n : Int) / 18446744073709551616 = ((n / 18446744073709551616 : Nat) : Int) := by omega
  have e2 : (n : Int) % 18446744073709551616 = ((n % 18446744073709551616 : Nat) : Int) := by omega
  unfold wideV
  rw [e1, e2]
  have hlo : n % 18446744073709551616 < 18446744073709551616 := by omega
  by_cases hg : 1000000 ≤ n / 18446744073709551616
  · have h := quotient_great (n / 18446744073709551616) (n % 18446744073709551616) w hg
    unfold quotP quotR
    rw [if_neg (by omega), if_neg (by omega)]
    exact h
  · have hs : n / 18446744073709551616 * 18446744073709551616 + n % 18446744073709551616 = n := wide_split n
    unfold quotP quotR
    rw [if_pos (by omega), if_pos (by omega)]
    by_cases h0 : n / 18446744073709551616 = 0
    · have hm : n % 18446744073709551616 = n := by omega
      rw [h0, hm]
      refine (quotient_any n 1000000 w (by omega) (by decide) (by decide)).mono ?_
      rintro e w' ⟨rfl, rfl⟩
      refine ⟨rfl, ?_⟩
      (repeat first | exact Below.refl _ _ | assumption | refine Below.drew ?_ | refine Below.alloc ?_ (by simp <;> omega) _ | refine Below.setCell ?_ (by simp <;> omega) _)
    · refine quotient_wide _ _ _ _ w (by omega) ?_
      intro w
      have h := div64_mil (n / 18446744073709551616) (n % 18446744073709551616) w (by omega) (by omega) hlo
      rw [hs] at h
      exact h
/-- The size of a product, in millionths. -/
def mulN (v u : Int) : Nat := quotP (v.natAbs * u.natAbs)
theorem mulN_comm (v u : Int) : mulN v u = mulN u v := by unfold mulN; rw [Nat.mul_comm]
set_option maxRecDepth 100000 in
set_option maxHeartbeats 4000000 in
theorem mul_walk (v u : Int) (nv nu p r : Nat) (bv bu zv : Bool) (K U : Int) (w : World) (hz : zeroB 0 v = zv) (hbl : belowB 0 v = bv) (hbl' : belowB 0 u = bu)
    (hV : ∀ w, Calls Tryz.prog 32 #[.int .i64 v] w fun e w' => e = .returned (.int .u64 (nv : Int)) ∧ w' = w)
    (hU : ∀ w, Calls Tryz.prog 32 #[.int .i64 u] w fun e w' => e = .returned (.int .u64 (nu : Int)) ∧ w' = w)
    (hP : ∀ w, Calls Tryz.prog 35 #[.int .u64 (nv : Int), .int .u64 (nu : Int)] w fun e w' => e = .returned (wideV (nv * nu)) ∧ Below w.heap.size w w')
    (hQ : ∀ w, Calls Tryz.prog 34 #[wideV (nv * nu), .int .u64 1000000] w fun e w' => e = .returned (.agg #[.int .u64 (p : Int), .int .u64 (r : Int)]) ∧ Below w.heap.size w w')
    (hSG : ∀ w, Calls Tryz.prog 31 #[.bool (bv != bu), .int .u64 (p : Int)] w fun e w' => e = .returned (.agg #[.int .i64 K, .int .i64 U]) ∧ Below w.heap.size w w') :
    Calls Tryz.prog 8 #[.agg #[.int .i64 0, .int .i64 v], .agg #[.int .i64 0, .int .i64 u]] w fun e w' => e = .returned (.agg #[.int .i64 K, .int .i64 U]) ∧ Below w.heap.size w w' := by
  have hi : infB 0 = false := rfl
  unfold wideV at hP hQ
  generalize ((nv * nu : Nat) : Int) / 18446744073709551616 = ph at hP hQ
  generalize ((nv * nu : Nat) : Int) % 18446744073709551616 = pl at hP hQ
  have HV := hide hV
  have HU := hide hU
  have HP := hide hP
  have HQ := hide hQ
  have HSG := hide hSG
  clear hV hU hP hQ hSG
  cases zv
  all_goals
    go_enter Tryz.func8, Tryz.ntmps8
    go_wp2_with fail
    go_cut [5] (fun s5 wx => s5 = .bool (bv != bu) ∧ Below (((w.alloc (.cells #[.int .i64 0, .int .i64 v] 24)).alloc (.cells #[.int .i64 0, .int .i64 u] 24)).alloc (.cells #[.int .i64 0, .int .i64 0] 24)).heap.size (((w.alloc (.cells #[.int .i64 0, .int .i64 v] 24)).alloc (.cells #[.int .i64 0, .int .i64 u] 24)).alloc (.cells #[.int .i64 0, .int .i64 0] 24)) wx)
    case first =>
      go_region_with (go_at_call 30; refine (isBelow_any _ _ _).mono ?_; rintro e w' ⟨rfl, rfl⟩)
      all_goals (try go_wp2_with fail)
      all_goals go_meet
      all_goals
        refine ⟨by rw [← hbl, ← hbl']; rfl, ?_⟩
        (repeat first | exact Below.refl _ _ | assumption | refine Below.drew ?_ | refine Below.alloc ?_ (by simp <;> omega) _ | refine Below.setCell ?_ (by simp <;> omega) _)
    case rest =>
      obtain ⟨rfl, hbx⟩ := hcut
      have hNa : NumAt wc (w.heap.size) 0 v := NumAt.below (w := (((w.alloc (.cells #[.int .i64 0, .int .i64 v] 24)).alloc (.cells #[.int .i64 0, .int .i64 u] 24)).alloc (.cells #[.int .i64 0, .int .i64 0] 24))) ⟨by simp [go_sem], by simp [go_sem], by simp [go_sem], by simp [go_sem]⟩ hbx
      have hNb : NumAt wc (w.heap.size + 1) 0 u := NumAt.below (w := (((w.alloc (.cells #[.int .i64 0, .int .i64 v] 24)).alloc (.cells #[.int .i64 0, .int .i64 u] 24)).alloc (.cells #[.int .i64 0, .int .i64 0] 24))) ⟨by simp [go_sem], by simp [go_sem], by simp [go_sem], by simp [go_sem]⟩ hbx
      have hNr : NumAt wc (w.heap.size + 1 + 1) 0 0 := NumAt.below (w := (((w.alloc (.cells #[.int .i64 0, .int .i64 v] 24)).alloc (.cells #[.int .i64 0, .int .i64 u] 24)).alloc (.cells #[.int .i64 0, .int .i64 0] 24))) ⟨by simp [go_sem], by simp [go_sem], by simp [go_sem], by simp [go_sem]⟩ hbx
      have hBc : Below w.heap.size w wc := Below.then (show Below w.heap.size w (((w.alloc (.cells #[.int .i64 0, .int .i64 v] 24)).alloc (.cells #[.int .i64 0, .int .i64 u] 24)).alloc (.cells #[.int .i64 0, .int .i64 0] 24)) by
        (repeat first | exact Below.refl _ _ | assumption | refine Below.drew ?_ | refine Below.alloc ?_ (by simp <;> omega) _ | refine Below.setCell ?_ (by simp <;> omega) _)) hbx
      have n2 : w.heap.size + 1 + 1 < wc.heap.size := block_lt_of_cell hNr.kind
      have n0 : w.heap.size < wc.heap.size := by omega
      have n1 : w.heap.size + 1 < wc.heap.size := by omega
      have n01 : w.heap.size < wc.heap.size + 1 := by omega
      have n02 : w.heap.size < wc.heap.size + 1 + 1 := by omega
      have n03 : w.heap.size < wc.heap.size + 1 + 1 + 1 := by omega
      have n04 : w.heap.size < wc.heap.size + 1 + 1 + 1 + 1 := by omega
      have n05 : w.heap.size < wc.heap.size + 1 + 1 + 1 + 1 + 1 := by omega
      have n06 : w.heap.size < wc.heap.size + 1 + 1 + 1 + 1 + 1 + 1 := by omega
      have n07 : w.heap.size < wc.heap.size + 1 + 1 + 1 + 1 + 1 + 1 + 1 := by omega
      have n08 : w.heap.size < wc.heap.size + 1 + 1 + 1 + 1 + 1 + 1 + 1 + 1 := by omega
      have n09 : w.heap.size < wc.heap.size + 1 + 1 + 1 + 1 + 1 + 1 + 1 + 1 + 1 := by omega
      have n11 : w.heap.size + 1 < wc.heap.size + 1 := by omega
      have n12 : w.heap.size + 1 < wc.heap.size + 1 + 1 := by omega
      have n13 : w.heap.size + 1 < wc.heap.size + 1 + 1 + 1 := by omega
      have n14 : w.heap.size + 1 < wc.heap.size + 1 + 1 + 1 + 1 := by omega
      have n15 : w.heap.size + 1 < wc.heap.size + 1 + 1 + 1 + 1 + 1 := by omega
      have n16 : w.heap.size + 1 < wc.heap.size + 1 + 1 + 1 + 1 + 1 + 1 := by omega
      have n17 : w.heap.size + 1 < wc.heap.size + 1 + 1 + 1 + 1 + 1 + 1 + 1 := by omega
      have n18 : w.heap.size + 1 < wc.heap.size + 1 + 1 + 1 + 1 + 1 + 1 + 1 + 1 := by omega
      have n19 : w.heap.size + 1 < wc.heap.size + 1 + 1 + 1 + 1 + 1 + 1 + 1 + 1 + 1 := by omega
      have HNa := hide hNa
      have HNb := hide hNb
      have HNr := hide hNr
      obtain ⟨a0, a1, a2, a3⟩ := hNa
      obtain ⟨b0, b1, b2, b3⟩ := hNb
      clear hNr hbx
      go_wp2_with (first | (go_at_call 26; refine (isNaN_any _ _ _).mono ?_; rintro e w' ⟨rfl, rfl⟩) | (go_at_call 28; refine (isInfinite_any _ _ _).mono ?_; rintro e w' ⟨rfl, rfl⟩) | (go_at_call 33; refine (isZero_any _ _ _).mono ?_; rintro e w' ⟨rfl, rfl⟩) | (go_at_call 30; refine (isBelow_any _ _ _).mono ?_; rintro e w' ⟨rfl, rfl⟩) | (go_at_call 27; refine (notANumber_any _).mono ?_; rintro e w' ⟨rfl, rfl⟩) | (go_at_call 29; refine (infinite_any _ _).mono ?_; rintro e w' ⟨rfl, rfl⟩))
      refine wp_named ?_
      intro W hW
      have hBW : Below wc.heap.size wc W := by
        rw [hW]
        (repeat first | exact Below.refl _ _ | assumption | refine Below.drew ?_ | refine Below.alloc ?_ (by simp <;> omega) _ | refine Below.setCell ?_ (by simp <;> omega) _)
      have hMa := (unhide HNa).below hBW
      have hMb := (unhide HNb).below hBW
      have HMr := hide ((unhide HNr).below hBW)
      have hsz : wc.heap.size ≤ W.heap.size := hBW.size
      have m00 : w.heap.size < W.heap.size := by omega
      have m01 : w.heap.size < W.heap.size + 1 := by omega
      have m02 : w.heap.size < W.heap.size + 1 + 1 := by omega
      have m03 : w.heap.size < W.heap.size + 1 + 1 + 1 := by omega
      have m10 : w.heap.size + 1 < W.heap.size := by omega
      have m11 : w.heap.size + 1 < W.heap.size + 1 := by omega
      have m12 : w.heap.size + 1 < W.heap.size + 1 + 1 := by omega
      have m13 : w.heap.size + 1 < W.heap.size + 1 + 1 + 1 := by omega
      clear hW a0 a1 a2 a3 b0 b1 b2 b3 n01 n02 n03 n04 n05 n06 n07 n08 n09 n11 n12 n13 n14 n15 n16 n17 n18 n19
      obtain ⟨a0, a1, a2, a3⟩ := hMa
      obtain ⟨b0, b1, b2, b3⟩ := hMb
      have hda : W.drew.cell? ⟨w.heap.size, 1, none⟩ = _ := a1
      have hdb : W.drew.cell? ⟨w.heap.size + 1, 1, none⟩ = _ := b1
      go_cut [6] (fun s6 wx => ∃ q : Nat, s6 = .pointer (some ⟨q, 0, none⟩) ∧ wx.cell? ⟨q, 0, none⟩ = some (.int .u64 (p : Int)) ∧ Below W.heap.size W wx)
      case first =>
        go_region_held3 (fun w' => w'.cell? ⟨w.heap.size, 1, none⟩ = some (.int .i64 v) ∧ w'.cell? ⟨w.heap.size + 1, 1, none⟩ = some (.int .i64 u))
          (first | exact ⟨hda, hdb⟩ | assumption | exact hold_alloc hS2 _ | exact hold_set2 hS2 (by omega) (by omega) | exact hold_below (by assumption) hb2 | exact hold_below (by assumption) hb | exact hold_alloc (by assumption) _ | exact hold_allocd (by assumption) _ | exact hold_set2 (by assumption) (by omega) (by omega) | exact hold_setd (by assumption) (by omega) (by omega))
          (first
            | (go_at_call_of 32 (Value.int IntKind.i64 v); refine (unhide HV _).mono ?_; rintro e w' ⟨rfl, rfl⟩)
            | (go_at_call_of 32 (Value.int IntKind.i64 u); refine (unhide HU _).mono ?_; rintro e w' ⟨rfl, rfl⟩)
            | (go_at_call 35; refine (unhide HP _).mono ?_; rintro e w1 ⟨rfl, hb⟩; (have hk1 : Below W.heap.size W w1 := Below.then (by (repeat first | assumption | refine Below.drew ?_ | refine Below.setCell ?_ (by first | omega | (simp; omega) | (simp; done)) _ | refine Below.alloc ?_ (by first | omega | (simp; omega) | (simp; done)) _ | exact Below.refl _ _)) hb); (have hz1 := hk1.size); (have hS1 := hold_below (w := W) ⟨a1, b1⟩ hk1); (try have pp := PartsAt.newd hb))
            | (go_at_call 34; refine (unhide HQ _).mono ?_; rintro e w2 ⟨rfl, hb2⟩; (have hk2 : Below W.heap.size W w2 := Below.then (by (repeat first | assumption | refine Below.drew ?_ | refine Below.setCell ?_ (by first | omega | (simp; omega) | (simp; done)) _ | refine Below.alloc ?_ (by first | omega | (simp; omega) | (simp; done)) _ | exact Below.refl _ _)) hb2); (have hz2 := hk2.size); (have hS2 := hold_below (w := W) ⟨a1, b1⟩ hk2); (try have r0 := (pp.below hb2).c0); (try have r1 := (pp.below hb2).c1); (try have r2 := (pp.below hb2).o0); (try have r3 := (pp.below hb2).o1); (try have q0 := (PartsAt.new hb2).c0); (try have q1 := (PartsAt.new hb2).c1); (try have q2 := (PartsAt.new hb2).o0); (try have q3 := (PartsAt.new hb2).o1)))
        all_goals (try go_wp2_with fail)
        all_goals go_meet
        all_goals
          refine ⟨_, rfl, ?_, ?_⟩
          · first | (simp [go_sem]; done) | (simp [go_sem, *]; done)
          · first | exact hk2.alloc hz2 _ | exact (hk2.setCell (by dsimp only; omega) _).setCell (by dsimp only; omega) _
      case rest =>
        obtain ⟨q, rfl, hp, hbx⟩ := hcut
        have HNw := hide ((unhide HMr).below hbx)
        have hpd : wc.drew.cell? ⟨q, 0, none⟩ = _ := hp
        go_wp2_with fail
        refine (unhide HSG _).mono ?_
        rintro e w' ⟨rfl, hb⟩
        have hNz := (unhide HNw).below hb
        have hfin := Below.then hBc (Below.then hBW (Below.then hbx hb))
        have hPn := hNz.put K U
        have hBn := putN_below hfin (show w.heap.size ≤ w.heap.size + 1 + 1 by omega) K U
        obtain ⟨q0, q1, q2, q3⟩ := hNz
        go_wp2
        show bodyPost _ _ _ _ _ (putN w' (w.heap.size + 1 + 1) K U)
        generalize putN w' (w.heap.size + 1 + 1) K U = X at hPn hBn ⊢
        obtain ⟨x0, x1, _, _⟩ := hPn
        refine bodyPost_ret (v := .agg #[.int .i64 K, .int .i64 U]) ?_ rfl ⟨rfl, hBn⟩
        simp [results, Tryz.results8, go_sem, x0, x1]
theorem mul_fin (v u : Int) (w : World) (h1 : -1000000000000000000 ≤ v) (h2 : v ≤ 1000000000000000000) (h3 : -1000000000000000000 ≤ u) (h4 : u ≤ 1000000000000000000) :
    Calls Tryz.prog 8 #[.agg #[.int .i64 0, .int .i64 v], .agg #[.int .i64 0, .int .i64 u]] w fun e w' => e = .returned (.agg #[.int .i64 (signK (belowB 0 v != belowB 0 u) (mulN v u)), .int .i64 (signN (belowB 0 v != belowB 0 u) (mulN v u))]) ∧ Below w.heap.size w w' :=
  mul_walk v u v.natAbs u.natAbs (mulN v u) (quotR (v.natAbs * u.natAbs)) _ _ _ _ _ w rfl rfl rfl (fun w => sizeOf_any v w (by omega) (by omega)) (fun w => sizeOf_any u w (by omega) (by omega)) (fun w => product_any _ _ w (by omega) (by omega)) (fun w => quotient_mil _ w) (fun w => signed_any _ _ w (quotP_lt _))
end Go.Proofs.YtmaefnmjfkbplaaGreatDoor
