/- A quotient: xnum's Div, at the numbers that 'live' asks. -/
import Derived.Test.YtnpdjddebeipiaaGreatDoorNumNamed
import Derived.Deep.RegionWith
import Derived.Deep.RegionHeld3
import Derived.Deep.DrawnRows
import Derived.Deep.DeepCutAuto
namespace Go.Proofs.YtnpdjddebeipiaaGreatDoor
open Go.RowKit
attribute [local go_sem ↓] Go.wp_at_zero Go.wp_at_succ
/-- A new variable of two words, and it may be written. -/
structure PartsAt (w : World) (b : Nat) : Prop where
  c0 : w.cell? ⟨b, 0, none⟩ = some (.int .u64 0)
  c1 : w.cell? ⟨b, 1, none⟩ = some (.int .u64 0)
  o0 : w.frozen? ⟨b, 0, none⟩ = false
  o1 : w.frozen? ⟨b, 1, none⟩ = false
theorem PartsAt.below {w w' : World} {b : Nat} (h : PartsAt w b) (hb : Below w.heap.size w w') : PartsAt w' b :=
  ⟨kept_cell hb h.c0, kept_cell hb h.c1, kept_open hb h.c0 h.o0, kept_open hb h.c1 h.o1⟩
theorem PartsAt.new {w w' : World} (hb : Below (w.alloc (.cells #[.int .u64 0, .int .u64 0] 35)).heap.size (w.alloc (.cells #[.int .u64 0, .int .u64 0] 35)) w') : PartsAt w' w.heap.size :=
  PartsAt.below ⟨by simp [go_sem], by simp [go_sem], by simp [go_sem], by simp [go_sem]⟩ hb
theorem PartsAt.newd {w w' : World} (hb : Below (w.alloc (.cells #[.int .u64 0, .int .u64 0] 35)).drew.heap.size (w.alloc (.cells #[.int .u64 0, .int .u64 0] 35)).drew w') : PartsAt w' w.heap.size :=
  PartsAt.below ⟨by simp [go_sem], by simp [go_sem], by simp [go_sem], by simp [go_sem]⟩ hb
theorem hold_below {w w' : World} {a b : Nat} {x y : Value} (h : w.cell? ⟨a, 1, none⟩ = some x ∧ w.cell? ⟨b, 1, none⟩ = some y) (hb : Below w.heap.size w w') : w'.cell? ⟨a, 1, none⟩ = some x ∧ w'.cell? ⟨b, 1, none⟩ = some y := ⟨kept_cell hb h.1, kept_cell hb h.2⟩
theorem hold_alloc {w : World} {a b : Nat} {x y : Value} (h : w.cell? ⟨a, 1, none⟩ = some x ∧ w.cell? ⟨b, 1, none⟩ = some y) (o : Obj) : (w.alloc o).cell? ⟨a, 1, none⟩ = some x ∧ (w.alloc o).cell? ⟨b, 1, none⟩ = some y := hold_below h ((Below.refl _ _).alloc (Nat.le_refl _) o)
theorem hold_allocd {w : World} {a b : Nat} {x y : Value} (h : w.cell? ⟨a, 1, none⟩ = some x ∧ w.cell? ⟨b, 1, none⟩ = some y) (o : Obj) : (w.alloc o).drew.cell? ⟨a, 1, none⟩ = some x ∧ (w.alloc o).drew.cell? ⟨b, 1, none⟩ = some y := hold_alloc h o
theorem hold_set2 {w : World} {a b c : Nat} {x y u v : Value} (h : w.cell? ⟨a, 1, none⟩ = some x ∧ w.cell? ⟨b, 1, none⟩ = some y) (h1 : c ≠ a) (h2 : c ≠ b) : ((w.setCell ⟨c, 0, none⟩ u).setCell ⟨c, 1, none⟩ v).cell? ⟨a, 1, none⟩ = some x ∧ ((w.setCell ⟨c, 0, none⟩ u).setCell ⟨c, 1, none⟩ v).cell? ⟨b, 1, none⟩ = some y := by
  obtain ⟨h3, h4⟩ := h
  constructor
  all_goals simp [go_sem, *]
theorem hold_setd {w : World} {a b c : Nat} {x y u v : Value} (h : w.cell? ⟨a, 1, none⟩ = some x ∧ w.cell? ⟨b, 1, none⟩ = some y) (h1 : c ≠ a) (h2 : c ≠ b) : ((w.setCell ⟨c, 0, none⟩ u).setCell ⟨c, 1, none⟩ v).drew.cell? ⟨a, 1, none⟩ = some x ∧ ((w.setCell ⟨c, 0, none⟩ u).setCell ⟨c, 1, none⟩ v).drew.cell? ⟨b, 1, none⟩ = some y := hold_set2 h h1 h2
set_option maxRecDepth 100000 in
set_option maxHeartbeats 4000000 in
theorem div_live (w : World) :
    Calls Tryz.prog 7 #[.agg #[.int .i64 0, .int .i64 1000000], .agg #[.int .i64 0, .int .i64 3000000]] w fun e w' => e = .returned (.agg #[.int .i64 0, .int .i64 333333]) ∧ Below w.heap.size w w' := by
  have hz : zeroB 0 3000000 = false := rfl
  have hz' : zeroB 0 1000000 = false := rfl
  have hi : infB 0 = false := rfl
  have hbl : belowB 0 3000000 = false := rfl
  have hbl' : belowB 0 1000000 = false := rfl
  have HV := hide (show ∀ w, Calls Tryz.prog 24 #[.int .i64 1000000] w fun e w' => e = .returned (.int .u64 1000000) ∧ w' = w from fun w => sizeOf_any 1000000 w (by decide) (by decide))
  have HU := hide (show ∀ w, Calls Tryz.prog 24 #[.int .i64 3000000] w fun e w' => e = .returned (.int .u64 3000000) ∧ w' = w from fun w => sizeOf_any 3000000 w (by decide) (by decide))
  have HP := hide (show ∀ w, Calls Tryz.prog 27 #[.int .u64 1000000, .int .u64 1000000] w fun e w' => e = .returned (.agg #[.int .u64 0, .int .u64 1000000000000]) ∧ Below w.heap.size w w' from fun w => product_any 1000000 1000000 w (by decide) (by decide))
  have HQ := hide (show ∀ w, Calls Tryz.prog 26 #[.agg #[.int .u64 0, .int .u64 1000000000000], .int .u64 3000000] w fun e w' => e = .returned (.agg #[.int .u64 333333, .int .u64 1000000]) ∧ Below w.heap.size w w' from fun w => (quotient_any 1000000000000 3000000 w (by decide) (by decide) (by decide)).mono (by rintro e w' ⟨rfl, rfl⟩; exact ⟨rfl, by (repeat first | exact Below.refl _ _ | assumption | refine Below.drew ?_ | refine Below.alloc ?_ (by simp <;> omega) _ | refine Below.setCell ?_ (by simp <;> omega) _)⟩))
  have HSG := hide (show ∀ w, Calls Tryz.prog 23 #[.bool false, .int .u64 333333] w fun e w' => e = .returned (.agg #[.int .i64 0, .int .i64 333333]) ∧ Below w.heap.size w w' from fun w => signed_any false 333333 w (by decide))
  go_enter Tryz.func7, Tryz.ntmps7
  go_wp2_with fail
  go_cut [5] (fun s5 wx => s5 = .bool false ∧ Below (((w.alloc (.cells #[.int .i64 0, .int .i64 1000000] 24)).alloc (.cells #[.int .i64 0, .int .i64 3000000] 24)).alloc (.cells #[.int .i64 0, .int .i64 0] 24)).heap.size (((w.alloc (.cells #[.int .i64 0, .int .i64 1000000] 24)).alloc (.cells #[.int .i64 0, .int .i64 3000000] 24)).alloc (.cells #[.int .i64 0, .int .i64 0] 24)) wx)
  case first =>
    go_region_with (go_at_call 22; refine (isBelow_any _ _ _).mono ?_; rintro e w' ⟨rfl, rfl⟩)
    all_goals (try go_wp2_with fail)
    all_goals go_meet
    all_goals
      refine ⟨rfl, ?_⟩
      (repeat first | exact Below.refl _ _ | assumption | refine Below.drew ?_ | refine Below.alloc ?_ (by simp <;> omega) _ | refine Below.setCell ?_ (by simp <;> omega) _)
  case rest =>
    obtain ⟨rfl, hbx⟩ := hcut
    have hNa : NumAt wc (w.heap.size) 0 1000000 := NumAt.below (w := (((w.alloc (.cells #[.int .i64 0, .int .i64 1000000] 24)).alloc (.cells #[.int .i64 0, .int .i64 3000000] 24)).alloc (.cells #[.int .i64 0, .int .i64 0] 24))) ⟨by simp [go_sem], by simp [go_sem], by simp [go_sem], by simp [go_sem]⟩ hbx
    have hNb : NumAt wc (w.heap.size + 1) 0 3000000 := NumAt.below (w := (((w.alloc (.cells #[.int .i64 0, .int .i64 1000000] 24)).alloc (.cells #[.int .i64 0, .int .i64 3000000] 24)).alloc (.cells #[.int .i64 0, .int .i64 0] 24))) ⟨by simp [go_sem], by simp [go_sem], by simp [go_sem], by simp [go_sem]⟩ hbx
    have hNr : NumAt wc (w.heap.size + 1 + 1) 0 0 := NumAt.below (w := (((w.alloc (.cells #[.int .i64 0, .int .i64 1000000] 24)).alloc (.cells #[.int .i64 0, .int .i64 3000000] 24)).alloc (.cells #[.int .i64 0, .int .i64 0] 24))) ⟨by simp [go_sem], by simp [go_sem], by simp [go_sem], by simp [go_sem]⟩ hbx
    have hBc : Below w.heap.size w wc := Below.then (show Below w.heap.size w (((w.alloc (.cells #[.int .i64 0, .int .i64 1000000] 24)).alloc (.cells #[.int .i64 0, .int .i64 3000000] 24)).alloc (.cells #[.int .i64 0, .int .i64 0] 24)) by
      (repeat first | exact Below.refl _ _ | assumption | refine Below.drew ?_ | refine Below.alloc ?_ (by simp <;> omega) _ | refine Below.setCell ?_ (by simp <;> omega) _)) hbx
    have n2 : w.heap.size + 1 + 1 < wc.heap.size := block_lt_of_cell hNr.kind
    have n0 : w.heap.size < wc.heap.size := by omega
    have n1 : w.heap.size + 1 < wc.heap.size := by omega
    have n01 : w.heap.size < wc.heap.size + 1 := by omega
    have n02 : w.heap.size < wc.heap.size + 1 + 1 := by omega
    have n03 : w.heap.size < wc.heap.size + 1 + 1 + 1 := by omega
    have n04 : w.heap.size < wc.heap.size + 1 + 1 + 1 + 1 := by omega
    have n05 : w.heap.size < wc.heap.size + 1 + 1 + 1 + 1 + 1 := by omega
    have n06 : w.heap.size < wc.heap.size + 1 + 1 + 1 + 1 + 1 + 1 := by omega
    have n07 : w.heap.size < wc.heap.size + 1 + 1 + 1 + 1 + 1 + 1 + 1 := by omega
    have n08 : w.heap.size < wc.heap.size + 1 + 1 + 1 + 1 + 1 + 1 + 1 + 1 := by omega
    have n09 : w.heap.size < wc.heap.size + 1 + 1 + 1 + 1 + 1 + 1 + 1 + 1 + 1 := by omega
    have n11 : w.heap.size + 1 < wc.heap.size + 1 := by omega
    have n12 : w.heap.size + 1 < wc.heap.size + 1 + 1 := by omega
    have n13 : w.heap.size + 1 < wc.heap.size + 1 + 1 + 1 := by omega
    have n14 : w.heap.size + 1 < wc.heap.size + 1 + 1 + 1 + 1 := by omega
    have n15 : w.heap.size + 1 < wc.heap.size + 1 + 1 + 1 + 1 + 1 := by omega
    have n16 : w.heap.size + 1 < wc.heap.size + 1 + 1 + 1 + 1 + 1 + 1 := by omega
    have n17 : w.heap.size + 1 < wc.heap.size + 1 + 1 + 1 + 1 + 1 + 1 + 1 := by omega
    have n18 : w.heap.size + 1 < wc.heap.size + 1 + 1 + 1 + 1 + 1 + 1 + 1 + 1 := by omega
    have n19 : w.heap.size + 1 < wc.heap.size + 1 + 1 + 1 + 1 + 1 + 1 + 1 + 1 + 1 := by omega
    have HNa := hide hNa
    have HNb := hide hNb
    have HNr := hide hNr
    obtain ⟨a0, a1, a2, a3⟩ := hNa
    obtain ⟨b0, b1, b2, b3⟩ := hNb
    clear hNr hbx
    go_wp2_with (first | (go_at_call 18; refine (isNaN_any _ _ _).mono ?_; rintro e w' ⟨rfl, rfl⟩) | (go_at_call 20; refine (isInfinite_any _ _ _).mono ?_; rintro e w' ⟨rfl, rfl⟩) | (go_at_call 25; refine (isZero_any _ _ _).mono ?_; rintro e w' ⟨rfl, rfl⟩) | (go_at_call 22; refine (isBelow_any _ _ _).mono ?_; rintro e w' ⟨rfl, rfl⟩) | (go_at_call 19; refine (notANumber_any _).mono ?_; rintro e w' ⟨rfl, rfl⟩) | (go_at_call 21; refine (infinite_any _ _).mono ?_; rintro e w' ⟨rfl, rfl⟩))
    refine wp_named ?_
    intro W hW
    have hBW : Below wc.heap.size wc W := by
      rw [hW]
      (repeat first | exact Below.refl _ _ | assumption | refine Below.drew ?_ | refine Below.alloc ?_ (by simp <;> omega) _ | refine Below.setCell ?_ (by simp <;> omega) _)
    have hMa := (unhide HNa).below hBW
    have hMb := (unhide HNb).below hBW
    have HMr := hide ((unhide HNr).below hBW)
    have hsz : wc.heap.size ≤ W.heap.size := hBW.size
    have m00 : w.heap.size < W.heap.size := by omega
    have m01 : w.heap.size < W.heap.size + 1 := by omega
    have m02 : w.heap.size < W.heap.size + 1 + 1 := by omega
    have m03 : w.heap.size < W.heap.size + 1 + 1 + 1 := by omega
    have m10 : w.heap.size + 1 < W.heap.size := by omega
    have m11 : w.heap.size + 1 < W.heap.size + 1 := by omega
    have m12 : w.heap.size + 1 < W.heap.size + 1 + 1 := by omega
    have m13 : w.heap.size + 1 < W.heap.size + 1 + 1 + 1 := by omega
    clear hW a0 a1 a2 a3 b0 b1 b2 b3 n01 n02 n03 n04 n05 n06 n07 n08 n09 n11 n12 n13 n14 n15 n16 n17 n18 n19
    obtain ⟨a0, a1, a2, a3⟩ := hMa
    obtain ⟨b0, b1, b2, b3⟩ := hMb
    have hda : W.drew.cell? ⟨w.heap.size, 1, none⟩ = _ := a1
    have hdb : W.drew.cell? ⟨w.heap.size + 1, 1, none⟩ = _ := b1
    go_cut [6] (fun s6 wx => ∃ p : Nat, s6 = .pointer (some ⟨p, 0, none⟩) ∧ wx.cell? ⟨p, 0, none⟩ = some (.int .u64 333333) ∧ Below W.heap.size W wx)
    case first =>
      go_region_held3 (fun w' => w'.cell? ⟨w.heap.size, 1, none⟩ = some (.int .i64 1000000) ∧ w'.cell? ⟨w.heap.size + 1, 1, none⟩ = some (.int .i64 3000000))
        (first | exact ⟨hda, hdb⟩ | assumption | exact hold_alloc hS2 _ | exact hold_set2 hS2 (by omega) (by omega) | exact hold_below (by assumption) hb2 | exact hold_below (by assumption) hb | exact hold_alloc (by assumption) _ | exact hold_allocd (by assumption) _ | exact hold_set2 (by assumption) (by omega) (by omega) | exact hold_setd (by assumption) (by omega) (by omega))
        (first
          | (go_at_call_of 24 (Value.int IntKind.i64 1000000); refine (unhide HV _).mono ?_; rintro e w' ⟨rfl, rfl⟩)
          | (go_at_call_of 24 (Value.int IntKind.i64 3000000); refine (unhide HU _).mono ?_; rintro e w' ⟨rfl, rfl⟩)
          | (go_at_call 27; refine (unhide HP _).mono ?_; rintro e w1 ⟨rfl, hb⟩; (have hk1 : Below W.heap.size W w1 := Below.then (by (repeat first | assumption | refine Below.drew ?_ | refine Below.setCell ?_ (by first | omega | (simp; omega) | (simp; done)) _ | refine Below.alloc ?_ (by first | omega | (simp; omega) | (simp; done)) _ | exact Below.refl _ _)) hb); (have hz1 := hk1.size); (have hS1 := hold_below (w := W) ⟨a1, b1⟩ hk1); (try have pp := PartsAt.newd hb))
          | (go_at_call 26; refine (unhide HQ _).mono ?_; rintro e w2 ⟨rfl, hb2⟩; (have hk2 : Below W.heap.size W w2 := Below.then (by (repeat first | assumption | refine Below.drew ?_ | refine Below.setCell ?_ (by first | omega | (simp; omega) | (simp; done)) _ | refine Below.alloc ?_ (by first | omega | (simp; omega) | (simp; done)) _ | exact Below.refl _ _)) hb2); (have hz2 := hk2.size); (have hS2 := hold_below (w := W) ⟨a1, b1⟩ hk2); (try have r0 := (pp.below hb2).c0); (try have r1 := (pp.below hb2).c1); (try have r2 := (pp.below hb2).o0); (try have r3 := (pp.below hb2).o1); (try have q0 := (PartsAt.new hb2).c0); (try have q1 := (PartsAt.new hb2).c1); (try have q2 := (PartsAt.new hb2).o0); (try have q3 := (PartsAt.new hb2).o1)))
      all_goals (try go_wp2_with fail)
      all_goals go_meet
      all_goals
        refine ⟨_, rfl, ?_, ?_⟩
        · first | (simp [go_sem]; done) | (simp [go_sem, *]; done)
        · first | exact hk2.alloc hz2 _ | exact (hk2.setCell (by dsimp only; omega) _).setCell (by dsimp only; omega) _
    case rest =>
      obtain ⟨p, rfl, hp, hbx⟩ := hcut
      have HNw := hide ((unhide HMr).below hbx)
      have hpd : wc.drew.cell? ⟨p, 0, none⟩ = _ := hp
      go_wp2_with fail
      refine (unhide HSG _).mono ?_
      rintro e w' ⟨rfl, hb⟩
      obtain ⟨q0, q1, q2, q3⟩ := (unhide HNw).below hb
      have hfin := Below.then hBc (Below.then hBW (Below.then hbx hb))
      go_wp2
      refine bodyPost_ret (v := .agg #[.int .i64 0, .int .i64 333333]) (by simp [results, Tryz.results7, go_sem, *]) rfl ⟨rfl, ?_⟩
      (repeat first | exact Below.refl _ _ | assumption | refine Below.drew ?_ | refine Below.alloc ?_ (by simp <;> omega) _ | refine Below.setCell ?_ (by simp <;> omega) _)
end Go.Proofs.YtnpdjddebeipiaaGreatDoor
