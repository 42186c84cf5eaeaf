/- A number by the pictures 0.###### and #,##0.######: xnum's Format of every Fin number. -/
import Derived.Test.YtndoodiimjkojaaGreatDoorPicWrite
import Derived.Test.YtndoodiimjkojaaGreatDoorNumForm
import Derived.Test.YtndoodiimjkojaaGreatDoorNumTextAny
namespace Go.Proofs.YtndoodiimjkojaaGreatDoor
open Go.RowKit
attribute [local go_sem ↓] Go.wp_at_zero Go.wp_at_succ
theorem num_keep {w : World} {b b' : Nat} {k v : Int} (n : NumAt w b k v) (hn : b ≠ b') (h' t' : ByteArray) (x' y' z' g' : Int) : NumAt (putL w b' h' t' x' y' z' g') b k v := by
  obtain ⟨c0, c1, o0, o1⟩ := n
  have hn' : b' ≠ b := fun e => hn e.symm
  unfold putL
  refine ⟨?_, ?_, ?_, ?_⟩
  all_goals simp [go_sem, *]
set_option maxRecDepth 100000 in
set_option maxHeartbeats 1000000 in
theorem format_above (pic S : ByteArray) (g v : Int) (w : World) (hE : NumEnv w) (hv : belowB 0 v = false) (hS : S.size ≤ 1000)
    (hP : ∀ w, NumEnv w → Calls Tryz.prog 15 #[.string pic] w fun e w' => e = .returned (.tuple #[.agg #[.string ⟨#[]⟩, .string ⟨#[]⟩, .int .i64 1, .int .i64 0, .int .i64 6, .int .i64 g], .agg #[.string ⟨#[45]⟩, .string ⟨#[]⟩, .int .i64 0, .int .i64 0, .int .i64 0, .int .i64 0], .bool true]) ∧ Below w.heap.size w w')
    (hW : ∀ w, NumEnv w → Calls Tryz.prog 17 #[.agg #[.string ⟨#[]⟩, .string ⟨#[]⟩, .int .i64 1, .int .i64 0, .int .i64 6, .int .i64 g], .agg #[.int .i64 0, .int .i64 v]] w fun e w' => e = .returned (.string S) ∧ Below w.heap.size w w') :
    Calls Tryz.prog 7 #[.agg #[.int .i64 0, .int .i64 v], .string pic] w fun e w' => e = .returned (.tuple #[.string S, .int .i64 0]) ∧ Below w.heap.size w w' := by
  have z1 : ¬ 9223372036854775807 < S.size := by omega
  have z2 : ¬ 9223372036854775807 < 1 + S.size := by omega
  have HPIC := hide hP
  have HSZ := hide hW
  have HV := hide hv
  clear hP hW hv
  have HE := hide hE
  clear hE
  go_enter Tryz.func7, Tryz.ntmps7
  go_wp2_with fail
  have hb0 : Below w.heap.size w (w.alloc (.cells #[.int .i64 0, .int .i64 v] 24)) := by
    (repeat first | exact Below.refl _ _ | assumption | refine Below.drew ?_ | refine Below.alloc ?_ (by simp <;> omega) _ | refine Below.setCell ?_ (by simp <;> omega) _)
  refine (unhide HPIC _ ((unhide HE).below hb0)).mono ?_
  rintro e w1 ⟨rfl, hb1⟩
  have hn : NumAt w1 w.heap.size 0 v := NumAt.below (w := (w.alloc (.cells #[.int .i64 0, .int .i64 v] 24))) ⟨by simp [go_sem], by simp [go_sem], by simp [go_sem], by simp [go_sem]⟩ hb1
  have hb01 := Below.then hb0 hb1
  have hlt := block_lt_of_cell hn.kind
  have hsz := hb01.size
  clear hb0 hb1
  go_upto_region 2 with fail
  refine wp_named ?_
  intro W hW
  have hlA : LayAt W w1.heap.size ⟨#[]⟩ ⟨#[]⟩ 1 0 6 g := by
    rw [hW]; exact (LayAt.lay w1 ⟨#[]⟩ ⟨#[]⟩ 1 0 6 g).below (by (repeat first | exact Below.refl _ _ | assumption | refine Below.drew ?_ | refine Below.alloc ?_ (by simp <;> omega) _ | refine Below.setCell ?_ (by simp <;> omega) _))
  have hnW : NumAt W w.heap.size 0 v := by
    rw [hW]; exact hn.below (by (repeat first | exact Below.refl _ _ | assumption | refine Below.drew ?_ | refine Below.alloc ?_ (by simp <;> omega) _ | refine Below.setCell ?_ (by simp <;> omega) _))
  have hbW : Below w.heap.size w W := by
    rw [hW]; exact (hb01.alloc hsz _).alloc (by simp; omega) _
  clear hW hn hlt hsz hb01
  have HA := hide hlA
  have HN := hide hnW
  obtain ⟨c0, c1, c2, c3, c4, c5, o0, o1, o2, o3, o4, o5⟩ := hlA
  obtain ⟨n0, n1, n2, n3⟩ := hnW
  go_wp2_with fail
  refine (isNaN_any 0 v _).mono ?_
  rintro e w' ⟨rfl, rfl⟩
  have x1 := block_lt_of_cell c0
  have x2 := block_lt_of_cell n0
  go_upto_region 7 with fail
  refine wp_named ?_
  intro X hX
  have hBX : Below W.heap.size W X := by
    rw [hX]
    (repeat first | exact Below.refl _ _ | assumption | refine Below.drew ?_ | refine Below.alloc ?_ (by simp <;> omega) _ | refine Below.setCell ?_ (by simp <;> omega) _)
  have hlA := (unhide HA).below hBX
  have hnX := (unhide HN).below hBX
  have hbX := Below.then hbW hBX
  have hlE : LayAt X (W.heap.size + 1) ⟨#[]⟩ ⟨#[]⟩ 1 0 6 g := by
    rw [hX]
    have := LayAt.lay (W.alloc (.cells #[.int .i64 0, .int .i64 v] 24)) ⟨#[]⟩ ⟨#[]⟩ 1 0 6 g
    simpa using this
  clear hX c0 c1 c2 c3 c4 c5 o0 o1 o2 o3 o4 o5 n0 n1 n2 n3 HA HN hbW hBX x1 x2
  have HA := hide hlA
  have HN := hide hnX
  have HLE := hide hlE
  obtain ⟨c0, c1, c2, c3, c4, c5, o0, o1, o2, o3, o4, o5⟩ := hlA
  obtain ⟨n0, n1, n2, n3⟩ := hnX
  go_wp2_with fail
  refine (isBelow_any 0 v _).mono ?_
  rintro e w' ⟨rfl, rfl⟩
  rw [unhide HV]
  go_upto_region 9 with fail
  refine wp_named ?_
  intro Y hY
  have hBY : Below X.heap.size X Y := by
    rw [hY]
    (repeat first | exact Below.refl _ _ | assumption | refine Below.drew ?_ | refine Below.alloc ?_ (by simp <;> omega) _ | refine Below.setCell ?_ (by simp <;> omega) _)
  have hbY := Below.then hbX hBY
  have hlA := (unhide HA).below hBY
  have hlE := (unhide HLE).below hBY
  have hnY := (unhide HN).below hBY
  clear hY c0 c1 c2 c3 c4 c5 o0 o1 o2 o3 o4 o5 n0 n1 n2 n3 HA HN HLE hbX hBY
  have HW := hide (unhide HSZ Y.drew ((unhide HE).below hbY.drew))
  obtain ⟨c0, c1, c2, c3, c4, c5, _, _, _, _, _, _⟩ := hlA
  obtain ⟨e0, e1, _, _, _, _, _, _, _, _, _, _⟩ := hlE
  obtain ⟨n0, n1, _, _⟩ := hnY
  have hSt : Y.cell? ⟨w1.heap.size, 0, none⟩ = some (.string ⟨#[]⟩) ∧ Y.cell? ⟨w1.heap.size, 1, none⟩ = some (.string ⟨#[]⟩) ∧ Y.cell? ⟨w1.heap.size, 2, none⟩ = some (.int .i64 1) ∧ Y.cell? ⟨w1.heap.size, 3, none⟩ = some (.int .i64 0) ∧ Y.cell? ⟨w1.heap.size, 4, none⟩ = some (.int .i64 6) ∧ Y.cell? ⟨w1.heap.size, 5, none⟩ = some (.int .i64 g) ∧ Y.cell? ⟨W.heap.size + 1, 0, none⟩ = some (.string ⟨#[]⟩) ∧ Y.cell? ⟨W.heap.size + 1, 1, none⟩ = some (.string ⟨#[]⟩) ∧ Y.cell? ⟨w.heap.size, 0, none⟩ = some (.int .i64 0) ∧ Y.cell? ⟨w.heap.size, 1, none⟩ = some (.int .i64 v) := ⟨c0, c1, c2, c3, c4, c5, e0, e1, n0, n1⟩
  clear c0 c1 c2 c3 c4 c5 e0 e1 n0 n1
  go_region_held3 (fun w' => w'.cell? ⟨w1.heap.size, 0, none⟩ = some (.string ⟨#[]⟩) ∧ w'.cell? ⟨w1.heap.size, 1, none⟩ = some (.string ⟨#[]⟩) ∧ w'.cell? ⟨w1.heap.size, 2, none⟩ = some (.int .i64 1) ∧ w'.cell? ⟨w1.heap.size, 3, none⟩ = some (.int .i64 0) ∧ w'.cell? ⟨w1.heap.size, 4, none⟩ = some (.int .i64 6) ∧ w'.cell? ⟨w1.heap.size, 5, none⟩ = some (.int .i64 g) ∧ w'.cell? ⟨W.heap.size + 1, 0, none⟩ = some (.string ⟨#[]⟩) ∧ w'.cell? ⟨W.heap.size + 1, 1, none⟩ = some (.string ⟨#[]⟩) ∧ w'.cell? ⟨w.heap.size, 0, none⟩ = some (.int .i64 0) ∧ w'.cell? ⟨w.heap.size, 1, none⟩ = some (.int .i64 v))
    (first | exact hSt | exact ⟨kept_cell hbp hSt.1, kept_cell hbp hSt.2.1, kept_cell hbp hSt.2.2.1, kept_cell hbp hSt.2.2.2.1, kept_cell hbp hSt.2.2.2.2.1, kept_cell hbp hSt.2.2.2.2.2.1, kept_cell hbp hSt.2.2.2.2.2.2.1, kept_cell hbp hSt.2.2.2.2.2.2.2.1, kept_cell hbp hSt.2.2.2.2.2.2.2.2.1, kept_cell hbp hSt.2.2.2.2.2.2.2.2.2⟩)
    (first
      | (go_at_call 17; refine (unhide HW).mono ?_; rintro e w3 ⟨rfl, hbp⟩))
  go_wp2
  go_ret2
  exact ⟨by first | rfl | (rw [nil_app, app_nil]; rfl) | (simp; done), Below.then hbY.drew hbp⟩
set_option maxRecDepth 100000 in
set_option maxHeartbeats 1000000 in
theorem format_below (pic S : ByteArray) (g v : Int) (w : World) (hE : NumEnv w) (hv : belowB 0 v = true) (hS : S.size ≤ 1000)
    (hP : ∀ w, NumEnv w → Calls Tryz.prog 15 #[.string pic] w fun e w' => e = .returned (.tuple #[.agg #[.string ⟨#[]⟩, .string ⟨#[]⟩, .int .i64 1, .int .i64 0, .int .i64 6, .int .i64 g], .agg #[.string ⟨#[45]⟩, .string ⟨#[]⟩, .int .i64 0, .int .i64 0, .int .i64 0, .int .i64 0], .bool true]) ∧ Below w.heap.size w w')
    (hW : ∀ w, NumEnv w → Calls Tryz.prog 17 #[.agg #[.string ⟨#[]⟩, .string ⟨#[]⟩, .int .i64 1, .int .i64 0, .int .i64 6, .int .i64 g], .agg #[.int .i64 0, .int .i64 v]] w fun e w' => e = .returned (.string S) ∧ Below w.heap.size w w') :
    Calls Tryz.prog 7 #[.agg #[.int .i64 0, .int .i64 v], .string pic] w fun e w' => e = .returned (.tuple #[.string (⟨#[45]⟩ ++ S), .int .i64 0]) ∧ Below w.heap.size w w' := by
  have z1 : ¬ 9223372036854775807 < S.size := by omega
  have z2 : ¬ 9223372036854775807 < 1 + S.size := by omega
  have HPIC := hide hP
  have HSZ := hide hW
  have HV := hide hv
  clear hP hW hv
  have HE := hide hE
  clear hE
  go_enter Tryz.func7, Tryz.ntmps7
  go_wp2_with fail
  have hb0 : Below w.heap.size w (w.alloc (.cells #[.int .i64 0, .int .i64 v] 24)) := by
    (repeat first | exact Below.refl _ _ | assumption | refine Below.drew ?_ | refine Below.alloc ?_ (by simp <;> omega) _ | refine Below.setCell ?_ (by simp <;> omega) _)
  refine (unhide HPIC _ ((unhide HE).below hb0)).mono ?_
  rintro e w1 ⟨rfl, hb1⟩
  have hn : NumAt w1 w.heap.size 0 v := NumAt.below (w := (w.alloc (.cells #[.int .i64 0, .int .i64 v] 24))) ⟨by simp [go_sem], by simp [go_sem], by simp [go_sem], by simp [go_sem]⟩ hb1
  have hb01 := Below.then hb0 hb1
  have hlt := block_lt_of_cell hn.kind
  have hsz := hb01.size
  clear hb0 hb1
  go_upto_region 2 with fail
  refine wp_named ?_
  intro W hW
  have hlA : LayAt W w1.heap.size ⟨#[]⟩ ⟨#[]⟩ 1 0 6 g := by
    rw [hW]; exact (LayAt.lay w1 ⟨#[]⟩ ⟨#[]⟩ 1 0 6 g).below (by (repeat first | exact Below.refl _ _ | assumption | refine Below.drew ?_ | refine Below.alloc ?_ (by simp <;> omega) _ | refine Below.setCell ?_ (by simp <;> omega) _))
  have hlB : LayAt W (w1.heap.size + 1) ⟨#[45]⟩ ⟨#[]⟩ 0 0 0 0 := by
    rw [hW]
    have := LayAt.lay (w1.alloc (.cells #[.string ⟨#[]⟩, .string ⟨#[]⟩, .int .i64 1, .int .i64 0, .int .i64 6, .int .i64 g] 40)) ⟨#[45]⟩ ⟨#[]⟩ 0 0 0 0
    simpa using this
  have HB := hide hlB
  clear hlB
  have hnW : NumAt W w.heap.size 0 v := by
    rw [hW]; exact hn.below (by (repeat first | exact Below.refl _ _ | assumption | refine Below.drew ?_ | refine Below.alloc ?_ (by simp <;> omega) _ | refine Below.setCell ?_ (by simp <;> omega) _))
  have hbW : Below w.heap.size w W := by
    rw [hW]; exact (hb01.alloc hsz _).alloc (by simp; omega) _
  clear hW hn hlt hsz hb01
  have HA := hide hlA
  have HN := hide hnW
  obtain ⟨c0, c1, c2, c3, c4, c5, o0, o1, o2, o3, o4, o5⟩ := hlA
  obtain ⟨n0, n1, n2, n3⟩ := hnW
  go_wp2_with fail
  refine (isNaN_any 0 v _).mono ?_
  rintro e w' ⟨rfl, rfl⟩
  have x1 := block_lt_of_cell c0
  have x2 := block_lt_of_cell n0
  go_upto_region 7 with fail
  refine wp_named ?_
  intro X hX
  have hBX : Below W.heap.size W X := by
    rw [hX]
    (repeat first | exact Below.refl _ _ | assumption | refine Below.drew ?_ | refine Below.alloc ?_ (by simp <;> omega) _ | refine Below.setCell ?_ (by simp <;> omega) _)
  have hlA := (unhide HA).below hBX
  have hnX := (unhide HN).below hBX
  have HBX := hide ((unhide HB).below hBX)
  have hbX := Below.then hbW hBX
  have hlE : LayAt X (W.heap.size + 1) ⟨#[]⟩ ⟨#[]⟩ 1 0 6 g := by
    rw [hX]
    have := LayAt.lay (W.alloc (.cells #[.int .i64 0, .int .i64 v] 24)) ⟨#[]⟩ ⟨#[]⟩ 1 0 6 g
    simpa using this
  have hw1 : w.heap.size ≤ W.heap.size := hbW.size
  clear hX c0 c1 c2 c3 c4 c5 o0 o1 o2 o3 o4 o5 n0 n1 n2 n3 HA HN hbW hBX
  have HA := hide hlA
  have HN := hide hnX
  have HLE := hide hlE
  obtain ⟨c0, c1, c2, c3, c4, c5, o0, o1, o2, o3, o4, o5⟩ := hlA
  obtain ⟨n0, n1, n2, n3⟩ := hnX
  go_wp2_with fail
  refine (isBelow_any 0 v _).mono ?_
  rintro e w' ⟨rfl, rfl⟩
  rw [unhide HV]
  have x3 := block_lt_of_cell (unhide HLE).c0
  have x4 := block_lt_of_cell (unhide HBX).c0
  obtain ⟨b0, b1, b2, b3, b4, b5, _, _, _, _, _, _⟩ := unhide HBX
  obtain ⟨q0, q1, q2, q3, q4, q5, r0, r1, r2, r3, r4, r5⟩ := unhide HLE
  go_upto_region 9 with fail
  refine wp_named ?_
  intro Y hY
  have hYp : Y = (putL X (W.heap.size + 1) ⟨#[45]⟩ ⟨#[]⟩ 0 0 0 0).alloc (.cells #[.int .i64 0, .int .i64 v] 24) := hY
  clear hY b0 b1 b2 b3 b4 b5 q0 q1 q2 q3 q4 q5 r0 r1 r2 r3 r4 r5 c0 c1 c2 c3 c4 c5 o0 o1 o2 o3 o4 o5 n0 n1 n2 n3
  have hbP : Below w.heap.size w (putL X (W.heap.size + 1) ⟨#[45]⟩ ⟨#[]⟩ 0 0 0 0) := putL_below hbX (by omega) _ _ _ _ _ _
  have hbY : Below w.heap.size w Y := by rw [hYp]; exact hbP.alloc hbP.size _
  have hPA := (unhide HA).keep (b' := W.heap.size + 1) (by omega) ⟨#[45]⟩ ⟨#[]⟩ 0 0 0 0
  have hPE := (unhide HLE).put ⟨#[45]⟩ ⟨#[]⟩ 0 0 0 0
  have hPN := num_keep (b' := W.heap.size + 1) (unhide HN) (by omega) ⟨#[45]⟩ ⟨#[]⟩ 0 0 0 0
  have hAl : Below (putL X (W.heap.size + 1) ⟨#[45]⟩ ⟨#[]⟩ 0 0 0 0).heap.size (putL X (W.heap.size + 1) ⟨#[45]⟩ ⟨#[]⟩ 0 0 0 0) Y := by rw [hYp]; exact (Below.refl _ _).alloc (Nat.le_refl _) _
  have hlA := hPA.below hAl
  have hlE := hPE.below hAl
  have hnY := hPN.below hAl
  clear hYp hbP hPA hPE hPN hAl HA HN HLE HBX hbX
  have HW := hide (unhide HSZ Y.drew ((unhide HE).below hbY.drew))
  obtain ⟨c0, c1, c2, c3, c4, c5, _, _, _, _, _, _⟩ := hlA
  obtain ⟨e0, e1, _, _, _, _, _, _, _, _, _, _⟩ := hlE
  obtain ⟨n0, n1, _, _⟩ := hnY
  have hSt : Y.cell? ⟨w1.heap.size, 0, none⟩ = some (.string ⟨#[]⟩) ∧ Y.cell? ⟨w1.heap.size, 1, none⟩ = some (.string ⟨#[]⟩) ∧ Y.cell? ⟨w1.heap.size, 2, none⟩ = some (.int .i64 1) ∧ Y.cell? ⟨w1.heap.size, 3, none⟩ = some (.int .i64 0) ∧ Y.cell? ⟨w1.heap.size, 4, none⟩ = some (.int .i64 6) ∧ Y.cell? ⟨w1.heap.size, 5, none⟩ = some (.int .i64 g) ∧ Y.cell? ⟨W.heap.size + 1, 0, none⟩ = some (.string ⟨#[45]⟩) ∧ Y.cell? ⟨W.heap.size + 1, 1, none⟩ = some (.string ⟨#[]⟩) ∧ Y.cell? ⟨w.heap.size, 0, none⟩ = some (.int .i64 0) ∧ Y.cell? ⟨w.heap.size, 1, none⟩ = some (.int .i64 v) := ⟨c0, c1, c2, c3, c4, c5, e0, e1, n0, n1⟩
  clear c0 c1 c2 c3 c4 c5 e0 e1 n0 n1
  go_region_held3 (fun w' => w'.cell? ⟨w1.heap.size, 0, none⟩ = some (.string ⟨#[]⟩) ∧ w'.cell? ⟨w1.heap.size, 1, none⟩ = some (.string ⟨#[]⟩) ∧ w'.cell? ⟨w1.heap.size, 2, none⟩ = some (.int .i64 1) ∧ w'.cell? ⟨w1.heap.size, 3, none⟩ = some (.int .i64 0) ∧ w'.cell? ⟨w1.heap.size, 4, none⟩ = some (.int .i64 6) ∧ w'.cell? ⟨w1.heap.size, 5, none⟩ = some (.int .i64 g) ∧ w'.cell? ⟨W.heap.size + 1, 0, none⟩ = some (.string ⟨#[45]⟩) ∧ w'.cell? ⟨W.heap.size + 1, 1, none⟩ = some (.string ⟨#[]⟩) ∧ w'.cell? ⟨w.heap.size, 0, none⟩ = some (.int .i64 0) ∧ w'.cell? ⟨w.heap.size, 1, none⟩ = some (.int .i64 v))
    (first | exact hSt | exact ⟨kept_cell hbp hSt.1, kept_cell hbp hSt.2.1, kept_cell hbp hSt.2.2.1, kept_cell hbp hSt.2.2.2.1, kept_cell hbp hSt.2.2.2.2.1, kept_cell hbp hSt.2.2.2.2.2.1, kept_cell hbp hSt.2.2.2.2.2.2.1, kept_cell hbp hSt.2.2.2.2.2.2.2.1, kept_cell hbp hSt.2.2.2.2.2.2.2.2.1, kept_cell hbp hSt.2.2.2.2.2.2.2.2.2⟩)
    (first
      | (go_at_call 17; refine (unhide HW).mono ?_; rintro e w3 ⟨rfl, hbp⟩))
  go_wp2
  go_ret2
  exact ⟨by first | rfl | (rw [app_nil]; rfl) | (simp; done), Below.then hbY.drew hbp⟩
end Go.Proofs.YtndoodiimjkojaaGreatDoor
