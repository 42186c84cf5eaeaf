/- The reference's order of numbers: stencilref02's rank, Compare and Less; and Compare of what is no number. -/
import Derived.Test.YtoeahagloobmoaaGreatDoorNumKey
import Derived.Test.YtoeahagloobmoaaGreatDoorNumNamed
import Derived.Deep.RegionHeld3
import Derived.Deep.DrawnRows
namespace Go.Proofs.YtoeahagloobmoaaGreatDoor
open Go.RowKit
attribute [local go_sem ↓] Go.wp_at_zero Go.wp_at_succ
def rrank (k : Int) : Int := if k = 1 then 0 else if k = 3 then 1 else if k = 2 then 3 else 2
set_option maxHeartbeats 1000000 in
theorem rank_any (k v : Int) (w : World) :
    Calls Tryz.prog 34 #[.agg #[.int .i64 k, .int .i64 v]] w fun e w' => e = .returned (.int .i64 (rrank k)) ∧ w' = w.alloc (.cells #[.int .i64 k, .int .i64 v] 37) := by
  unfold rrank
  by_cases h1 : k = 1
  · subst h1
    go_enter Tryz.func34, Tryz.ntmps34
    go_wp2
    go_ret
    exact ⟨rfl, rfl⟩
  · have e1 : (k == 1) = false := by simpa using h1
    by_cases h3 : k = 3
    · subst h3
      go_enter Tryz.func34, Tryz.ntmps34
      go_wp2
      go_ret
      exact ⟨rfl, rfl⟩
    · have e3 : (k == 3) = false := by simpa using h3
      by_cases h2 : k = 2
      · subst h2
        go_enter Tryz.func34, Tryz.ntmps34
        go_wp2
        go_ret
        exact ⟨rfl, rfl⟩
      · have e2 : (k == 2) = false := by simpa using h2
        rw [if_neg h1, if_neg h3, if_neg h2]
        clear h1 h2 h3
        go_enter Tryz.func34, Tryz.ntmps34
        go_wp2
        go_ret
        exact ⟨rfl, rfl⟩
/-- What the reference's Compare answers of two that can be compared. -/
def rcmp (k v l u : Int) : Int := if rrank k ≠ rrank l then (if rrank k < rrank l then -1 else 1) else cmpN v u
/-- Two numbers' variables behind the world's own. -/
theorem two_hold {w W : World} {k v l u : Int} (hA : NumAt W w.heap.size k v) (hB : NumAt W (w.heap.size + 1) l u) : W.cell? ⟨w.heap.size, 0, none⟩ = some (.int .i64 k) ∧ W.cell? ⟨w.heap.size, 1, none⟩ = some (.int .i64 v) ∧ W.cell? ⟨w.heap.size + 1, 0, none⟩ = some (.int .i64 l) ∧ W.cell? ⟨w.heap.size + 1, 1, none⟩ = some (.int .i64 u) := ⟨hA.kind, hA.val, hB.kind, hB.val⟩
theorem four_below {w W W' : World} {k v l u : Int} (h : W.cell? ⟨w.heap.size, 0, none⟩ = some (.int .i64 k) ∧ W.cell? ⟨w.heap.size, 1, none⟩ = some (.int .i64 v) ∧ W.cell? ⟨w.heap.size + 1, 0, none⟩ = some (.int .i64 l) ∧ W.cell? ⟨w.heap.size + 1, 1, none⟩ = some (.int .i64 u)) (hb : Below W.heap.size W W') : W'.cell? ⟨w.heap.size, 0, none⟩ = some (.int .i64 k) ∧ W'.cell? ⟨w.heap.size, 1, none⟩ = some (.int .i64 v) ∧ W'.cell? ⟨w.heap.size + 1, 0, none⟩ = some (.int .i64 l) ∧ W'.cell? ⟨w.heap.size + 1, 1, none⟩ = some (.int .i64 u) :=
  ⟨kept_cell hb h.1, kept_cell hb h.2.1, kept_cell hb h.2.2.1, kept_cell hb h.2.2.2⟩
theorem two_new (w : World) (k v l u : Int) : ((w.alloc (.cells #[.int .i64 k, .int .i64 v] 37)).alloc (.cells #[.int .i64 l, .int .i64 u] 37)).cell? ⟨w.heap.size, 0, none⟩ = some (.int .i64 k) ∧ ((w.alloc (.cells #[.int .i64 k, .int .i64 v] 37)).alloc (.cells #[.int .i64 l, .int .i64 u] 37)).cell? ⟨w.heap.size, 1, none⟩ = some (.int .i64 v) ∧ ((w.alloc (.cells #[.int .i64 k, .int .i64 v] 37)).alloc (.cells #[.int .i64 l, .int .i64 u] 37)).cell? ⟨w.heap.size + 1, 0, none⟩ = some (.int .i64 l) ∧ ((w.alloc (.cells #[.int .i64 k, .int .i64 v] 37)).alloc (.cells #[.int .i64 l, .int .i64 u] 37)).cell? ⟨w.heap.size + 1, 1, none⟩ = some (.int .i64 u) := by
  refine ⟨?_, ?_, ?_, ?_⟩
  all_goals simp [go_sem]
theorem ret_cmp {a b : Int} (h : a = b) : Ending.returned (.tuple #[.int .i64 a, .bool true]) = .returned (.tuple #[.int .i64 b, .bool true]) := by rw [h]
def rless (k v l u : Int) : Bool := if rrank k ≠ rrank l then decide (rrank k < rrank l) else (rrank k == 2 && decide (v < u))
set_option maxRecDepth 100000 in
set_option maxHeartbeats 2000000 in
theorem refLess_any (k v l u : Int) (w : World) :
    Calls Tryz.prog 20 #[.agg #[.int .i64 k, .int .i64 v], .agg #[.int .i64 l, .int .i64 u]] w fun e w' => e = .returned (.bool (rless k v l u)) ∧ Below w.heap.size w w' := by
  have HK := hide (show ∀ w, Calls Tryz.prog 34 #[.agg #[.int .i64 k, .int .i64 v]] w fun e w' => e = .returned (.int .i64 (rrank k)) ∧ Below w.heap.size w w' from fun w => (rank_any k v w).mono (by rintro e w' ⟨rfl, rfl⟩; exact ⟨rfl, by (repeat first | exact Below.refl _ _ | assumption | refine Below.drew ?_ | refine Below.alloc ?_ (by simp <;> omega) _ | refine Below.setCell ?_ (by simp <;> omega) _)⟩))
  have HL := hide (show ∀ w, Calls Tryz.prog 34 #[.agg #[.int .i64 l, .int .i64 u]] w fun e w' => e = .returned (.int .i64 (rrank l)) ∧ Below w.heap.size w w' from fun w => (rank_any l u w).mono (by rintro e w' ⟨rfl, rfl⟩; exact ⟨rfl, by (repeat first | exact Below.refl _ _ | assumption | refine Below.drew ?_ | refine Below.alloc ?_ (by simp <;> omega) _ | refine Below.setCell ?_ (by simp <;> omega) _)⟩))
  have hc : ∀ x y, rrank k = x → rrank l = y → rless k v l u = if x ≠ y then decide (x < y) else (x == 2 && decide (v < u)) := by
    rintro _ _ rfl rfl; rfl
  have HCV := hide hc
  clear hc
  generalize hx : rrank k = x at *
  generalize hy : rrank l = y at *
  have HV := hide (unhide HCV x y rfl rfl)
  clear HCV hx hy
  generalize rless k v l u = z at *
  go_enter Tryz.func20, Tryz.ntmps20
  go_wp2_with fail
  have hb0 : Below w.heap.size w ((w.alloc (.cells #[.int .i64 k, .int .i64 v] 37)).alloc (.cells #[.int .i64 l, .int .i64 u] 37)) := by
    (repeat first | exact Below.refl _ _ | assumption | refine Below.drew ?_ | refine Below.alloc ?_ (by simp <;> omega) _ | refine Below.setCell ?_ (by simp <;> omega) _)
  have hS := two_new w k v l u
  generalize ((w.alloc (.cells #[.int .i64 k, .int .i64 v] 37)).alloc (.cells #[.int .i64 l, .int .i64 u] 37)) = W at hb0 hS ⊢
  go_region_held3 (fun w' => w'.cell? ⟨w.heap.size, 0, none⟩ = some (.int .i64 k) ∧ w'.cell? ⟨w.heap.size, 1, none⟩ = some (.int .i64 v) ∧ w'.cell? ⟨w.heap.size + 1, 0, none⟩ = some (.int .i64 l) ∧ w'.cell? ⟨w.heap.size + 1, 1, none⟩ = some (.int .i64 u))
    (first | exact hS | exact four_below (W := W.drew) hS hbp | exact four_below (four_below (W := W.drew) hS hbp) hbq)
    (first
      | (go_at_call 34; (have := hbp); refine (unhide HL _).mono ?_; rintro e wq ⟨rfl, hbq⟩)
      | (go_at_call 34; refine (unhide HK _).mono ?_; rintro e wp ⟨rfl, hbp⟩))
  have hR := four_below (four_below (W := W.drew) hS hbp) hbq
  have hb1 := Below.then hb0.drew (Below.then hbp hbq)
  clear hS hb0 hbp hbq
  by_cases hxy : x = y
  · subst hxy
    have hz : z = (x == 2 && decide (v < u)) := by rw [unhide HV, if_neg (by simp)]
    clear HV HL
    obtain ⟨a0, a1, b0, b1⟩ := hR
    go_wp2_with fail
    refine (unhide HK _).mono ?_
    rintro e wr ⟨rfl, hbr⟩
    have p0 := kept_cell hbr a0
    have p1 := kept_cell hbr a1
    have q0 := kept_cell hbr b0
    have q1 := kept_cell hbr b1
    have hb2 := Below.then hb1 hbr
    clear a0 a1 b0 b1 hb1 hbr HK
    go_wp2
    all_goals go_ret
    all_goals exact ⟨ret_bool (by rw [hz]; simp [*]), hb2⟩
  · have hz : z = decide (x < y) := by rw [unhide HV, if_pos hxy]
    have hne : (x == y) = false := by simpa using hxy
    clear HV
    go_wp2_with fail
    go_region_held3 (fun w' => w'.cell? ⟨w.heap.size, 0, none⟩ = some (.int .i64 k) ∧ w'.cell? ⟨w.heap.size, 1, none⟩ = some (.int .i64 v) ∧ w'.cell? ⟨w.heap.size + 1, 0, none⟩ = some (.int .i64 l) ∧ w'.cell? ⟨w.heap.size + 1, 1, none⟩ = some (.int .i64 u))
      (first | exact hR | exact four_below (W := wq.drew) hR hcp | exact four_below (four_below (W := wq.drew) hR hcp) hcq)
      (first
        | (go_at_call 34; (have := hcp); refine (unhide HL _).mono ?_; rintro e wy ⟨rfl, hcq⟩)
        | (go_at_call 34; refine (unhide HK _).mono ?_; rintro e wx ⟨rfl, hcp⟩))
    have hb2 := Below.then hb1.drew (Below.then hcp hcq)
    clear hR hb1 hcp hcq HK HL
    go_wp2
    all_goals go_ret
    all_goals exact ⟨ret_bool (by rw [hz]), hb2⟩
end Go.Proofs.YtoeahagloobmoaaGreatDoor
