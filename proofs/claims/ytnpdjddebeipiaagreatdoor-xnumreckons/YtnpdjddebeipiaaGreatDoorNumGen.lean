/- Products and quotients of numbers of whatever kind, right or not: xnum's Mul, Div. -/
import Derived.Test.YtnpdjddebeipiaaGreatDoorNumMul
import Derived.Test.YtnpdjddebeipiaaGreatDoorNumDivA
namespace Go.Proofs.YtnpdjddebeipiaaGreatDoor
open Go.RowKit
attribute [local go_sem ↓] Go.wp_at_zero Go.wp_at_succ
set_option maxRecDepth 100000 in
set_option maxHeartbeats 1000000 in
theorem quotient_wideY (hi lo y P R : Nat) (w : World) (h1 : hi < y) (hd : ∀ w, Calls Tryz.prog 41 #[.int .u64 (hi : Int), .int .u64 (lo : Int), .int .u64 (y : Int)] w fun e w' => e = .returned (.tuple #[.int .u64 (P : Int), .int .u64 (R : Int)]) ∧ Below w.heap.size w w') :
    Calls Tryz.prog 26 #[.agg #[.int .u64 (hi : Int), .int .u64 (lo : Int)], .int .u64 (y : Int)] w fun e w' => e = .returned (.agg #[.int .u64 (P : Int), .int .u64 (R : Int)]) ∧ Below w.heap.size w w' := by
  have HD := hide hd
  clear hd
  have h1' : ¬ (y : Int) ≤ (hi : Int) := by omega
  clear h1
  go_enter Tryz.func26, Tryz.ntmps26
  go_wp2_with fail
  refine (unhide HD _).mono ?_
  rintro e w1 ⟨rfl, hb⟩
  have hfin : Below w.heap.size w w1 := Below.then (by (repeat first | exact Below.refl _ _ | assumption | refine Below.drew ?_ | refine Below.alloc ?_ (by simp <;> omega) _ | refine Below.setCell ?_ (by simp <;> omega) _)) hb
  obtain ⟨q0, q1, q2, q3⟩ := PartsAt.below (b := w.heap.size + 1) ⟨by simp [go_sem], by simp [go_sem], by simp [go_sem], by simp [go_sem]⟩ hb
  clear hb HD h1'
  go_wp2
  refine bodyPost_ret (v := .agg #[.int .u64 (P : Int), .int .u64 (R : Int)]) ?_ rfl ⟨rfl, ?_⟩
  · simp [results, Tryz.results26, go_sem, *]
  · exact (hfin.setCell (by dsimp only; omega) _).setCell (by dsimp only; omega) _
set_option maxHeartbeats 1000000 in
theorem quotient_greatY (hi lo y : Nat) (w : World) (h1 : y ≤ hi) :
    Calls Tryz.prog 26 #[.agg #[.int .u64 (hi : Int), .int .u64 (lo : Int)], .int .u64 (y : Int)] w fun e w' => e = .returned (.agg #[.int .u64 18446744073709551615, .int .u64 0]) ∧ Below w.heap.size w w' := by
  have h1' : (y : Int) ≤ (hi : Int) := by omega
  clear h1
  go_enter Tryz.func26, Tryz.ntmps26
  go_wp2
  refine bodyPost_ret (v := .agg #[.int .u64 18446744073709551615, .int .u64 0]) (by simp [results, Tryz.results26, go_sem]) rfl ⟨rfl, ?_⟩
  (repeat first | exact Below.refl _ _ | assumption | refine Below.drew ?_ | refine Below.alloc ?_ (by simp <;> omega) _ | refine Below.setCell ?_ (by simp <;> omega) _)
def qotP (hi lo y : Nat) : Nat := if y ≤ hi then 18446744073709551615 else (hi * 18446744073709551616 + lo) / y
def qotR (hi lo y : Nat) : Nat := if y ≤ hi then 0 else (hi * 18446744073709551616 + lo) % y
theorem qotP_lt (hi lo y : Nat) (hlo : lo < 18446744073709551616) : qotP hi lo y < 18446744073709551616 := by
  unfold qotP
  split
  · decide
  · rename_i h
    refine Nat.div_lt_of_lt_mul ?_
    have h1 : (hi + 1) * 18446744073709551616 ≤ y * 18446744073709551616 := Nat.mul_le_mul_right _ (by omega)
    rw [Nat.add_mul] at h1
    omega
/-- quotient of every number of 128 bits by every number. -/
theorem quotient_all (hi lo y : Nat) (w : World) (hlo : lo < 18446744073709551616) (hy : y < 18446744073709551616) :
    Calls Tryz.prog 26 #[.agg #[.int .u64 (hi : Int), .int .u64 (lo : Int)], .int .u64 (y : Int)] w fun e w' => e = .returned (.agg #[.int .u64 (qotP hi lo y : Int), .int .u64 (qotR hi lo y : Int)]) ∧ Below w.heap.size w w' := by
  unfold qotP qotR
  by_cases h : y ≤ hi
  · rw [if_pos h, if_pos h]
    exact quotient_greatY hi lo y w h
  · rw [if_neg h, if_neg h]
    by_cases h0 : hi = 0
    · subst h0
      rw [Nat.zero_mul, Nat.zero_add]
      refine (quotient_any lo y w hlo (by omega) hy).mono ?_
      rintro e w' ⟨rfl, rfl⟩
      refine ⟨rfl, ?_⟩
      (repeat first | exact Below.refl _ _ | assumption | refine Below.drew ?_ | refine Below.alloc ?_ (by simp <;> omega) _ | refine Below.setCell ?_ (by simp <;> omega) _)
    · exact quotient_wideY _ _ y _ _ w (by omega) fun w => div64_any hi lo y w (by omega) (by omega) hlo hy
set_option maxRecDepth 100000 in
set_option maxHeartbeats 4000000 in
theorem mul_gen (k v l u : Int) (nv nu p r : Nat) (bv bu zv : Bool) (K U : Int) (w : World) (hk1 : (k == 1) = false) (hl1 : (l == 1) = false) (hik : infB k = false) (hil : infB l = false) (hz : zeroB k v = zv) (hbl : belowB k v = bv) (hbl' : belowB l u = bu)
    (hV : ∀ w, Calls Tryz.prog 24 #[.int .i64 v] w fun e w' => e = .returned (.int .u64 (nv : Int)) ∧ w' = w)
    (hU : ∀ w, Calls Tryz.prog 24 #[.int .i64 u] w fun e w' => e = .returned (.int .u64 (nu : Int)) ∧ w' = w)
    (hP : ∀ w, Calls Tryz.prog 27 #[.int .u64 (nv : Int), .int .u64 (nu : Int)] w fun e w' => e = .returned (wideV (nv * nu)) ∧ Below w.heap.size w w')
    (hQ : ∀ w, Calls Tryz.prog 26 #[wideV (nv * nu), .int .u64 1000000] w fun e w' => e = .returned (.agg #[.int .u64 (p : Int), .int .u64 (r : Int)]) ∧ Below w.heap.size w w')
    (hSG : ∀ w, Calls Tryz.prog 23 #[.bool (bv != bu), .int .u64 (p : Int)] w fun e w' => e = .returned (.agg #[.int .i64 K, .int .i64 U]) ∧ Below w.heap.size w w') :
    Calls Tryz.prog 6 #[.agg #[.int .i64 k, .int .i64 v], .agg #[.int .i64 l, .int .i64 u]] w fun e w' => e = .returned (.agg #[.int .i64 K, .int .i64 U]) ∧ Below w.heap.size w w' := by
  unfold wideV at hP hQ
  generalize ((nv * nu : Nat) : Int) / 18446744073709551616 = ph at hP hQ
  generalize ((nv * nu : Nat) : Int) % 18446744073709551616 = pl at hP hQ
  have HV := hide hV
  have HU := hide hU
  have HP := hide hP
  have HQ := hide hQ
  have HSG := hide hSG
  clear hV hU hP hQ hSG
  cases zv
  all_goals
    go_enter Tryz.func6, Tryz.ntmps6
    go_wp2_with fail
    go_cut [5] (fun s5 wx => s5 = .bool (bv != bu) ∧ Below (((w.alloc (.cells #[.int .i64 k, .int .i64 v] 24)).alloc (.cells #[.int .i64 l, .int .i64 u] 24)).alloc (.cells #[.int .i64 0, .int .i64 0] 24)).heap.size (((w.alloc (.cells #[.int .i64 k, .int .i64 v] 24)).alloc (.cells #[.int .i64 l, .int .i64 u] 24)).alloc (.cells #[.int .i64 0, .int .i64 0] 24)) wx)
    case first =>
      go_region_with (go_at_call 22; refine (isBelow_any _ _ _).mono ?_; rintro e w' ⟨rfl, rfl⟩)
      all_goals (try go_wp2_with fail)
      all_goals go_meet
      all_goals
        refine ⟨by rw [← hbl, ← hbl']; rfl, ?_⟩
        (repeat first | exact Below.refl _ _ | assumption | refine Below.drew ?_ | refine Below.alloc ?_ (by simp <;> omega) _ | refine Below.setCell ?_ (by simp <;> omega) _)
    case rest =>
      obtain ⟨rfl, hbx⟩ := hcut
      have hNa : NumAt wc (w.heap.size) k v := NumAt.below (w := (((w.alloc (.cells #[.int .i64 k, .int .i64 v] 24)).alloc (.cells #[.int .i64 l, .int .i64 u] 24)).alloc (.cells #[.int .i64 0, .int .i64 0] 24))) ⟨by simp [go_sem], by simp [go_sem], by simp [go_sem], by simp [go_sem]⟩ hbx
      have hNb : NumAt wc (w.heap.size + 1) l u := NumAt.below (w := (((w.alloc (.cells #[.int .i64 k, .int .i64 v] 24)).alloc (.cells #[.int .i64 l, .int .i64 u] 24)).alloc (.cells #[.int .i64 0, .int .i64 0] 24))) ⟨by simp [go_sem], by simp [go_sem], by simp [go_sem], by simp [go_sem]⟩ hbx
      have hNr : NumAt wc (w.heap.size + 1 + 1) 0 0 := NumAt.below (w := (((w.alloc (.cells #[.int .i64 k, .int .i64 v] 24)).alloc (.cells #[.int .i64 l, .int .i64 u] 24)).alloc (.cells #[.int .i64 0, .int .i64 0] 24))) ⟨by simp [go_sem], by simp [go_sem], by simp [go_sem], by simp [go_sem]⟩ hbx
      have hBc : Below w.heap.size w wc := Below.then (show Below w.heap.size w (((w.alloc (.cells #[.int .i64 k, .int .i64 v] 24)).alloc (.cells #[.int .i64 l, .int .i64 u] 24)).alloc (.cells #[.int .i64 0, .int .i64 0] 24)) by
        (repeat first | exact Below.refl _ _ | assumption | refine Below.drew ?_ | refine Below.alloc ?_ (by simp <;> omega) _ | refine Below.setCell ?_ (by simp <;> omega) _)) hbx
      have n2 : w.heap.size + 1 + 1 < wc.heap.size := block_lt_of_cell hNr.kind
      have n0 : w.heap.size < wc.heap.size := by omega
      have n1 : w.heap.size + 1 < wc.heap.size := by omega
      have n01 : w.heap.size < wc.heap.size + 1 := by omega
      have n02 : w.heap.size < wc.heap.size + 1 + 1 := by omega
      have n03 : w.heap.size < wc.heap.size + 1 + 1 + 1 := by omega
      have n04 : w.heap.size < wc.heap.size + 1 + 1 + 1 + 1 := by omega
      have n05 : w.heap.size < wc.heap.size + 1 + 1 + 1 + 1 + 1 := by omega
      have n06 : w.heap.size < wc.heap.size + 1 + 1 + 1 + 1 + 1 + 1 := by omega
      have n07 : w.heap.size < wc.heap.size + 1 + 1 + 1 + 1 + 1 + 1 + 1 := by omega
      have n08 : w.heap.size < wc.heap.size + 1 + 1 + 1 + 1 + 1 + 1 + 1 + 1 := by omega
      have n09 : w.heap.size < wc.heap.size + 1 + 1 + 1 + 1 + 1 + 1 + 1 + 1 + 1 := by omega
      have n11 : w.heap.size + 1 < wc.heap.size + 1 := by omega
      have n12 : w.heap.size + 1 < wc.heap.size + 1 + 1 := by omega
      have n13 : w.heap.size + 1 < wc.heap.size + 1 + 1 + 1 := by omega
      have n14 : w.heap.size + 1 < wc.heap.size + 1 + 1 + 1 + 1 := by omega
      have n15 : w.heap.size + 1 < wc.heap.size + 1 + 1 + 1 + 1 + 1 := by omega
      have n16 : w.heap.size + 1 < wc.heap.size + 1 + 1 + 1 + 1 + 1 + 1 := by omega
      have n17 : w.heap.size + 1 < wc.heap.size + 1 + 1 + 1 + 1 + 1 + 1 + 1 := by omega
      have n18 : w.heap.size + 1 < wc.heap.size + 1 + 1 + 1 + 1 + 1 + 1 + 1 + 1 := by omega
      have n19 : w.heap.size + 1 < wc.heap.size + 1 + 1 + 1 + 1 + 1 + 1 + 1 + 1 + 1 := by omega
      have HNa := hide hNa
      have HNb := hide hNb
      have HNr := hide hNr
      obtain ⟨a0, a1, a2, a3⟩ := hNa
      obtain ⟨b0, b1, b2, b3⟩ := hNb
      clear hNr hbx
      go_wp2_with (first | (go_at_call 18; refine (isNaN_any _ _ _).mono ?_; rintro e w' ⟨rfl, rfl⟩) | (go_at_call 20; refine (isInfinite_any _ _ _).mono ?_; rintro e w' ⟨rfl, rfl⟩) | (go_at_call 25; refine (isZero_any _ _ _).mono ?_; rintro e w' ⟨rfl, rfl⟩) | (go_at_call 22; refine (isBelow_any _ _ _).mono ?_; rintro e w' ⟨rfl, rfl⟩) | (go_at_call 19; refine (notANumber_any _).mono ?_; rintro e w' ⟨rfl, rfl⟩) | (go_at_call 21; refine (infinite_any _ _).mono ?_; rintro e w' ⟨rfl, rfl⟩))
      refine wp_named ?_
      intro W hW
      have hBW : Below wc.heap.size wc W := by
        rw [hW]
        (repeat first | exact Below.refl _ _ | assumption | refine Below.drew ?_ | refine Below.alloc ?_ (by simp <;> omega) _ | refine Below.setCell ?_ (by simp <;> omega) _)
      have hMa := (unhide HNa).below hBW
      have hMb := (unhide HNb).below hBW
      have HMr := hide ((unhide HNr).below hBW)
      have hsz : wc.heap.size ≤ W.heap.size := hBW.size
      have m00 : w.heap.size < W.heap.size := by omega
      have m01 : w.heap.size < W.heap.size + 1 := by omega
      have m02 : w.heap.size < W.heap.size + 1 + 1 := by omega
      have m03 : w.heap.size < W.heap.size + 1 + 1 + 1 := by omega
      have m10 : w.heap.size + 1 < W.heap.size := by omega
      have m11 : w.heap.size + 1 < W.heap.size + 1 := by omega
      have m12 : w.heap.size + 1 < W.heap.size + 1 + 1 := by omega
      have m13 : w.heap.size + 1 < W.heap.size + 1 + 1 + 1 := by omega
      clear hW a0 a1 a2 a3 b0 b1 b2 b3 n01 n02 n03 n04 n05 n06 n07 n08 n09 n11 n12 n13 n14 n15 n16 n17 n18 n19
      obtain ⟨a0, a1, a2, a3⟩ := hMa
      obtain ⟨b0, b1, b2, b3⟩ := hMb
      have hda : W.drew.cell? ⟨w.heap.size, 1, none⟩ = _ := a1
      have hdb : W.drew.cell? ⟨w.heap.size + 1, 1, none⟩ = _ := b1
      go_cut [6] (fun s6 wx => ∃ q : Nat, s6 = .pointer (some ⟨q, 0, none⟩) ∧ wx.cell? ⟨q, 0, none⟩ = some (.int .u64 (p : Int)) ∧ Below W.heap.size W wx)
      case first =>
        go_region_held3 (fun w' => w'.cell? ⟨w.heap.size, 1, none⟩ = some (.int .i64 v) ∧ w'.cell? ⟨w.heap.size + 1, 1, none⟩ = some (.int .i64 u))
          (first | exact ⟨hda, hdb⟩ | assumption | exact hold_alloc hS2 _ | exact hold_set2 hS2 (by omega) (by omega) | exact hold_below (by assumption) hb2 | exact hold_below (by assumption) hb | exact hold_alloc (by assumption) _ | exact hold_allocd (by assumption) _ | exact hold_set2 (by assumption) (by omega) (by omega) | exact hold_setd (by assumption) (by omega) (by omega))
          (first
            | (go_at_call_of 24 (Value.int IntKind.i64 v); refine (unhide HV _).mono ?_; rintro e w' ⟨rfl, rfl⟩)
            | (go_at_call_of 24 (Value.int IntKind.i64 u); refine (unhide HU _).mono ?_; rintro e w' ⟨rfl, rfl⟩)
            | (go_at_call 27; refine (unhide HP _).mono ?_; rintro e w1 ⟨rfl, hb⟩; (have hk1 : Below W.heap.size W w1 := Below.then (by (repeat first | assumption | refine Below.drew ?_ | refine Below.setCell ?_ (by first | omega | (simp; omega) | (simp; done)) _ | refine Below.alloc ?_ (by first | omega | (simp; omega) | (simp; done)) _ | exact Below.refl _ _)) hb); (have hz1 := hk1.size); (have hS1 := hold_below (w := W) ⟨a1, b1⟩ hk1); (try have pp := PartsAt.newd hb))
            | (go_at_call 26; refine (unhide HQ _).mono ?_; rintro e w2 ⟨rfl, hb2⟩; (have hk2 : Below W.heap.size W w2 := Below.then (by (repeat first | assumption | refine Below.drew ?_ | refine Below.setCell ?_ (by first | omega | (simp; omega) | (simp; done)) _ | refine Below.alloc ?_ (by first | omega | (simp; omega) | (simp; done)) _ | exact Below.refl _ _)) hb2); (have hz2 := hk2.size); (have hS2 := hold_below (w := W) ⟨a1, b1⟩ hk2); (try have r0 := (pp.below hb2).c0); (try have r1 := (pp.below hb2).c1); (try have r2 := (pp.below hb2).o0); (try have r3 := (pp.below hb2).o1); (try have q0 := (PartsAt.new hb2).c0); (try have q1 := (PartsAt.new hb2).c1); (try have q2 := (PartsAt.new hb2).o0); (try have q3 := (PartsAt.new hb2).o1)))
        all_goals (try go_wp2_with fail)
        all_goals go_meet
        all_goals
          refine ⟨_, rfl, ?_, ?_⟩
          · first | (simp [go_sem]; done) | (simp [go_sem, *]; done)
          · first | exact hk2.alloc hz2 _ | exact (hk2.setCell (by dsimp only; omega) _).setCell (by dsimp only; omega) _
      case rest =>
        obtain ⟨q, rfl, hp, hbx⟩ := hcut
        have HNw := hide ((unhide HMr).below hbx)
        have hpd : wc.drew.cell? ⟨q, 0, none⟩ = _ := hp
        go_wp2_with fail
        refine (unhide HSG _).mono ?_
        rintro e w' ⟨rfl, hb⟩
        have hNz := (unhide HNw).below hb
        have hfin := Below.then hBc (Below.then hBW (Below.then hbx hb))
        have hPn := hNz.put K U
        have hBn := putN_below hfin (show w.heap.size ≤ w.heap.size + 1 + 1 by omega) K U
        obtain ⟨q0, q1, q2, q3⟩ := hNz
        go_wp2
        show bodyPost _ _ _ _ _ (putN w' (w.heap.size + 1 + 1) K U)
        generalize putN w' (w.heap.size + 1 + 1) K U = X at hPn hBn ⊢
        obtain ⟨x0, x1, _, _⟩ := hPn
        refine bodyPost_ret (v := .agg #[.int .i64 K, .int .i64 U]) ?_ rfl ⟨rfl, hBn⟩
        simp [results, Tryz.results6, go_sem, x0, x1]
set_option maxRecDepth 100000 in
set_option maxHeartbeats 4000000 in
theorem div_gen (k v l u : Int) (nv nu p r : Nat) (ph pl : Int) (bv bu zv : Bool) (K U : Int) (w : World) (hk1 : (k == 1) = false) (hl1 : (l == 1) = false) (hik : infB k = false) (hil : infB l = false) (hz : zeroB k v = zv) (hzu : zeroB l u = false) (hbl : belowB k v = bv) (hbl' : belowB l u = bu)
    (hV : ∀ w, Calls Tryz.prog 24 #[.int .i64 v] w fun e w' => e = .returned (.int .u64 (nv : Int)) ∧ w' = w)
    (hU : ∀ w, Calls Tryz.prog 24 #[.int .i64 u] w fun e w' => e = .returned (.int .u64 (nu : Int)) ∧ w' = w)
    (hP : ∀ w, Calls Tryz.prog 27 #[.int .u64 (nv : Int), .int .u64 1000000] w fun e w' => e = .returned (.agg #[.int .u64 ph, .int .u64 pl]) ∧ Below w.heap.size w w')
    (hQ : ∀ w, Calls Tryz.prog 26 #[.agg #[.int .u64 ph, .int .u64 pl], .int .u64 (nu : Int)] w fun e w' => e = .returned (.agg #[.int .u64 (p : Int), .int .u64 (r : Int)]) ∧ Below w.heap.size w w')
    (hSG : ∀ w, Calls Tryz.prog 23 #[.bool (bv != bu), .int .u64 (p : Int)] w fun e w' => e = .returned (.agg #[.int .i64 K, .int .i64 U]) ∧ Below w.heap.size w w') :
    Calls Tryz.prog 7 #[.agg #[.int .i64 k, .int .i64 v], .agg #[.int .i64 l, .int .i64 u]] w fun e w' => e = .returned (.agg #[.int .i64 K, .int .i64 U]) ∧ Below w.heap.size w w' := by
  have HV := hide hV
  have HU := hide hU
  have HP := hide hP
  have HQ := hide hQ
  have HSG := hide hSG
  clear hV hU hP hQ hSG
  cases zv
  all_goals
    go_enter Tryz.func7, Tryz.ntmps7
    go_wp2_with fail
    go_cut [5] (fun s5 wx => s5 = .bool (bv != bu) ∧ Below (((w.alloc (.cells #[.int .i64 k, .int .i64 v] 24)).alloc (.cells #[.int .i64 l, .int .i64 u] 24)).alloc (.cells #[.int .i64 0, .int .i64 0] 24)).heap.size (((w.alloc (.cells #[.int .i64 k, .int .i64 v] 24)).alloc (.cells #[.int .i64 l, .int .i64 u] 24)).alloc (.cells #[.int .i64 0, .int .i64 0] 24)) wx)
    case first =>
      go_region_with (go_at_call 22; refine (isBelow_any _ _ _).mono ?_; rintro e w' ⟨rfl, rfl⟩)
      all_goals (try go_wp2_with fail)
      all_goals go_meet
      all_goals
        refine ⟨by rw [← hbl, ← hbl']; rfl, ?_⟩
        (repeat first | exact Below.refl _ _ | assumption | refine Below.drew ?_ | refine Below.alloc ?_ (by simp <;> omega) _ | refine Below.setCell ?_ (by simp <;> omega) _)
    case rest =>
      obtain ⟨rfl, hbx⟩ := hcut
      have hNa : NumAt wc (w.heap.size) k v := NumAt.below (w := (((w.alloc (.cells #[.int .i64 k, .int .i64 v] 24)).alloc (.cells #[.int .i64 l, .int .i64 u] 24)).alloc (.cells #[.int .i64 0, .int .i64 0] 24))) ⟨by simp [go_sem], by simp [go_sem], by simp [go_sem], by simp [go_sem]⟩ hbx
      have hNb : NumAt wc (w.heap.size + 1) l u := NumAt.below (w := (((w.alloc (.cells #[.int .i64 k, .int .i64 v] 24)).alloc (.cells #[.int .i64 l, .int .i64 u] 24)).alloc (.cells #[.int .i64 0, .int .i64 0] 24))) ⟨by simp [go_sem], by simp [go_sem], by simp [go_sem], by simp [go_sem]⟩ hbx
      have hNr : NumAt wc (w.heap.size + 1 + 1) 0 0 := NumAt.below (w := (((w.alloc (.cells #[.int .i64 k, .int .i64 v] 24)).alloc (.cells #[.int .i64 l, .int .i64 u] 24)).alloc (.cells #[.int .i64 0, .int .i64 0] 24))) ⟨by simp [go_sem], by simp [go_sem], by simp [go_sem], by simp [go_sem]⟩ hbx
      have hBc : Below w.heap.size w wc := Below.then (show Below w.heap.size w (((w.alloc (.cells #[.int .i64 k, .int .i64 v] 24)).alloc (.cells #[.int .i64 l, .int .i64 u] 24)).alloc (.cells #[.int .i64 0, .int .i64 0] 24)) by
        (repeat first | exact Below.refl _ _ | assumption | refine Below.drew ?_ | refine Below.alloc ?_ (by simp <;> omega) _ | refine Below.setCell ?_ (by simp <;> omega) _)) hbx
      have n2 : w.heap.size + 1 + 1 < wc.heap.size := block_lt_of_cell hNr.kind
      have n0 : w.heap.size < wc.heap.size := by omega
      have n1 : w.heap.size + 1 < wc.heap.size := by omega
      have n01 : w.heap.size < wc.heap.size + 1 := by omega
      have n02 : w.heap.size < wc.heap.size + 1 + 1 := by omega
      have n03 : w.heap.size < wc.heap.size + 1 + 1 + 1 := by omega
      have n04 : w.heap.size < wc.heap.size + 1 + 1 + 1 + 1 := by omega
      have n05 : w.heap.size < wc.heap.size + 1 + 1 + 1 + 1 + 1 := by omega
      have n06 : w.heap.size < wc.heap.size + 1 + 1 + 1 + 1 + 1 + 1 := by omega
      have n07 : w.heap.size < wc.heap.size + 1 + 1 + 1 + 1 + 1 + 1 + 1 := by omega
      have n08 : w.heap.size < wc.heap.size + 1 + 1 + 1 + 1 + 1 + 1 + 1 + 1 := by omega
      have n09 : w.heap.size < wc.heap.size + 1 + 1 + 1 + 1 + 1 + 1 + 1 + 1 + 1 := by omega
      have n11 : w.heap.size + 1 < wc.heap.size + 1 := by omega
      have n12 : w.heap.size + 1 < wc.heap.size + 1 + 1 := by omega
      have n13 : w.heap.size + 1 < wc.heap.size + 1 + 1 + 1 := by omega
      have n14 : w.heap.size + 1 < wc.heap.size + 1 + 1 + 1 + 1 := by omega
      have n15 : w.heap.size + 1 < wc.heap.size + 1 + 1 + 1 + 1 + 1 := by omega
      have n16 : w.heap.size + 1 < wc.heap.size + 1 + 1 + 1 + 1 + 1 + 1 := by omega
      have n17 : w.heap.size + 1 < wc.heap.size + 1 + 1 + 1 + 1 + 1 + 1 + 1 := by omega
      have n18 : w.heap.size + 1 < wc.heap.size + 1 + 1 + 1 + 1 + 1 + 1 + 1 + 1 := by omega
      have n19 : w.heap.size + 1 < wc.heap.size + 1 + 1 + 1 + 1 + 1 + 1 + 1 + 1 + 1 := by omega
      have HNa := hide hNa
      have HNb := hide hNb
      have HNr := hide hNr
      obtain ⟨a0, a1, a2, a3⟩ := hNa
      obtain ⟨b0, b1, b2, b3⟩ := hNb
      clear hNr hbx
      go_wp2_with (first | (go_at_call 18; refine (isNaN_any _ _ _).mono ?_; rintro e w' ⟨rfl, rfl⟩) | (go_at_call 20; refine (isInfinite_any _ _ _).mono ?_; rintro e w' ⟨rfl, rfl⟩) | (go_at_call 25; refine (isZero_any _ _ _).mono ?_; rintro e w' ⟨rfl, rfl⟩) | (go_at_call 22; refine (isBelow_any _ _ _).mono ?_; rintro e w' ⟨rfl, rfl⟩) | (go_at_call 19; refine (notANumber_any _).mono ?_; rintro e w' ⟨rfl, rfl⟩) | (go_at_call 21; refine (infinite_any _ _).mono ?_; rintro e w' ⟨rfl, rfl⟩))
      refine wp_named ?_
      intro W hW
      have hBW : Below wc.heap.size wc W := by
        rw [hW]
        (repeat first | exact Below.refl _ _ | assumption | refine Below.drew ?_ | refine Below.alloc ?_ (by simp <;> omega) _ | refine Below.setCell ?_ (by simp <;> omega) _)
      have hMa := (unhide HNa).below hBW
      have hMb := (unhide HNb).below hBW
      have HMr := hide ((unhide HNr).below hBW)
      have hsz : wc.heap.size ≤ W.heap.size := hBW.size
      have m00 : w.heap.size < W.heap.size := by omega
      have m01 : w.heap.size < W.heap.size + 1 := by omega
      have m02 : w.heap.size < W.heap.size + 1 + 1 := by omega
      have m03 : w.heap.size < W.heap.size + 1 + 1 + 1 := by omega
      have m10 : w.heap.size + 1 < W.heap.size := by omega
      have m11 : w.heap.size + 1 < W.heap.size + 1 := by omega
      have m12 : w.heap.size + 1 < W.heap.size + 1 + 1 := by omega
      have m13 : w.heap.size + 1 < W.heap.size + 1 + 1 + 1 := by omega
      clear hW a0 a1 a2 a3 b0 b1 b2 b3 n01 n02 n03 n04 n05 n06 n07 n08 n09 n11 n12 n13 n14 n15 n16 n17 n18 n19
      obtain ⟨a0, a1, a2, a3⟩ := hMa
      obtain ⟨b0, b1, b2, b3⟩ := hMb
      have hda : W.drew.cell? ⟨w.heap.size, 1, none⟩ = _ := a1
      have hdb : W.drew.cell? ⟨w.heap.size + 1, 1, none⟩ = _ := b1
      go_cut [6] (fun s6 wx => ∃ q : Nat, s6 = .pointer (some ⟨q, 0, none⟩) ∧ wx.cell? ⟨q, 0, none⟩ = some (.int .u64 (p : Int)) ∧ Below W.heap.size W wx)
      case first =>
        go_region_held3 (fun w' => w'.cell? ⟨w.heap.size, 1, none⟩ = some (.int .i64 v) ∧ w'.cell? ⟨w.heap.size + 1, 1, none⟩ = some (.int .i64 u))
          (first | exact ⟨hda, hdb⟩ | assumption | exact hold_alloc hS2 _ | exact hold_set2 hS2 (by omega) (by omega) | exact hold_below (by assumption) hb2 | exact hold_below (by assumption) hb | exact hold_alloc (by assumption) _ | exact hold_allocd (by assumption) _ | exact hold_set2 (by assumption) (by omega) (by omega) | exact hold_setd (by assumption) (by omega) (by omega))
          (first
            | (go_at_call_of 24 (Value.int IntKind.i64 v); refine (unhide HV _).mono ?_; rintro e w' ⟨rfl, rfl⟩)
            | (go_at_call_of 24 (Value.int IntKind.i64 u); refine (unhide HU _).mono ?_; rintro e w' ⟨rfl, rfl⟩)
            | (go_at_call 27; refine (unhide HP _).mono ?_; rintro e w1 ⟨rfl, hb⟩; (have hk1 : Below W.heap.size W w1 := Below.then (by (repeat first | assumption | refine Below.drew ?_ | refine Below.setCell ?_ (by first | omega | (simp; omega) | (simp; done)) _ | refine Below.alloc ?_ (by first | omega | (simp; omega) | (simp; done)) _ | exact Below.refl _ _)) hb); (have hz1 := hk1.size); (have hS1 := hold_below (w := W) ⟨a1, b1⟩ hk1); (try have pp := PartsAt.newd hb))
            | (go_at_call 26; refine (unhide HQ _).mono ?_; rintro e w2 ⟨rfl, hb2⟩; (have hk2 : Below W.heap.size W w2 := Below.then (by (repeat first | assumption | refine Below.drew ?_ | refine Below.setCell ?_ (by first | omega | (simp; omega) | (simp; done)) _ | refine Below.alloc ?_ (by first | omega | (simp; omega) | (simp; done)) _ | exact Below.refl _ _)) hb2); (have hz2 := hk2.size); (have hS2 := hold_below (w := W) ⟨a1, b1⟩ hk2); (try have r0 := (pp.below hb2).c0); (try have r1 := (pp.below hb2).c1); (try have r2 := (pp.below hb2).o0); (try have r3 := (pp.below hb2).o1); (try have q0 := (PartsAt.new hb2).c0); (try have q1 := (PartsAt.new hb2).c1); (try have q2 := (PartsAt.new hb2).o0); (try have q3 := (PartsAt.new hb2).o1)))
        all_goals (try go_wp2_with fail)
        all_goals go_meet
        all_goals
          refine ⟨_, rfl, ?_, ?_⟩
          · first | (simp [go_sem]; done) | (simp [go_sem, *]; done)
          · first | exact hk2.alloc hz2 _ | exact (hk2.setCell (by dsimp only; omega) _).setCell (by dsimp only; omega) _
      case rest =>
        obtain ⟨q, rfl, hp, hbx⟩ := hcut
        have HNw := hide ((unhide HMr).below hbx)
        have hpd : wc.drew.cell? ⟨q, 0, none⟩ = _ := hp
        go_wp2_with fail
        refine (unhide HSG _).mono ?_
        rintro e w' ⟨rfl, hb⟩
        have hNz := (unhide HNw).below hb
        have hfin := Below.then hBc (Below.then hBW (Below.then hbx hb))
        have hPn := hNz.put K U
        have hBn := putN_below hfin (show w.heap.size ≤ w.heap.size + 1 + 1 by omega) K U
        obtain ⟨q0, q1, q2, q3⟩ := hNz
        go_wp2
        show bodyPost _ _ _ _ _ (putN w' (w.heap.size + 1 + 1) K U)
        generalize putN w' (w.heap.size + 1 + 1) K U = X at hPn hBn ⊢
        obtain ⟨x0, x1, _, _⟩ := hPn
        refine bodyPost_ret (v := .agg #[.int .i64 K, .int .i64 U]) ?_ rfl ⟨rfl, hBn⟩
        simp [results, Tryz.results7, go_sem, x0, x1]

end Go.Proofs.YtnpdjddebeipiaaGreatDoor
