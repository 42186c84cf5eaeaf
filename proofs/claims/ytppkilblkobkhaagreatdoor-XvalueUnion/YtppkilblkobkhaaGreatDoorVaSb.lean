/- xvalue.substring, as the law's live asks it. -/
import Derived.Test.YtppkilblkobkhaaGreatDoorVaCall
import Derived.Test.YtppkilblkobkhaaGreatDoorVaTr
import Derived.Test.YtppkilblkobkhaaGreatDoorNumAdd
import Derived.Test.YtppkilblkobkhaaGreatDoorClsTail
namespace Go.Proofs.YtppkilblkobkhaaGreatDoor
open Go.RowKit
set_option maxRecDepth 100000 in
theorem number_num (v : Int) (w : World) : Calls Tryz.prog 97 #[.pointer none, .agg #[.int .i64 1, .slice none 0 0, .int .i64 0, .int .i64 v, .string ⟨#[]⟩, .bool false]] w fun e w' => e = .returned (.agg #[.int .i64 0, .int .i64 v]) ∧ Below w.heap.size w w' := by
  go_enter Tryz.func97, Tryz.ntmps97
  go_wp2
  refine bodyPost_ret (v := .agg #[.int .i64 0, .int .i64 v]) (by simp [results, Tryz.results97, go_sem]) rfl ?_
  exact ⟨rfl, by (repeat first | exact Below.refl _ _ | assumption | refine Below.drew ?_ | refine Below.alloc ?_ (by simp <;> omega) _ | refine Below.setCell ?_ (by simp <;> omega) _)⟩
set_option maxRecDepth 100000 in
set_option maxHeartbeats 2000000 in
theorem number_at (w : World) (g o n cap i : Nat) (x : Int) (l : List PV) (h : ValsAt w g o l) (hi : l[i]? = some (numP x)) (hn : l.length = n) :
    Calls Tryz.prog 67 #[.agg #[.pointer none, .slice (some ⟨g, o, none⟩) n cap], .int .i64 (i : Nat)] w fun e w' => e = .returned (.agg #[.int .i64 0, .int .i64 x]) ∧ Below w.heap.size w w' := by
  have hlt : i < n := by rw [← hn]; exact (List.getElem?_eq_some_iff.1 hi).1
  have n1 : (0 : Int) ≤ (i : Int) := by omega
  have n2 : (i : Int) < (n : Int) := by omega
  have HS := hide (number_num x)
  obtain ⟨W0, hW0⟩ : ∃ W0, w.alloc (.cells #[.pointer none, .slice (some ⟨g, o, none⟩) n cap] 64) = W0 := ⟨_, rfl⟩
  have hb0 : Below w.heap.size w W0 := by rw [← hW0]; exact (Below.refl _ _).alloc (Nat.le_refl _) _
  have p0 : W0.cell? ⟨w.heap.size, 0, none⟩ = some (.pointer none) := by rw [← hW0]; exact new_cell ..
  have p1 : W0.cell? ⟨w.heap.size, 1, none⟩ = some (.slice (some ⟨g, o, none⟩) n cap) := by rw [← hW0]; exact new_cell ..
  have HV := hide (ValsAt.on h hb0)
  obtain ⟨W1, hW1⟩ : ∃ W1, W0.alloc (.cells #[.int .i64 0, .int .i64 0] 32) = W1 := ⟨_, rfl⟩
  have hb1 : Below W0.heap.size W0 W1 := by rw [← hW1]; exact (Below.refl _ _).alloc (Nat.le_refl _) _
  have HR : Hid (NumAt W1 W0.heap.size 0 0) := hide (by rw [← hW1]; exact ⟨by simp [go_sem], by simp [go_sem], by simp [go_sem], by simp [go_sem]⟩)
  have HX : Hid (ClsV W1 W1.drew) := hide ⟨(Below.refl _ _).drew⟩
  have HCE : Hid (∀ w', ClsV W1 w' → w'.cell? ⟨w.heap.size, 0, none⟩ = some (.pointer none) ∧ w'.cell? ⟨w.heap.size, 1, none⟩ = some (.slice (some ⟨g, o, none⟩) n cap) ∧
      w'.cell? ⟨g, o + i * 6, none⟩ = some (.int .i64 1) ∧ w'.cell? ⟨g, o + i * 6 + 1, none⟩ = some (.slice none 0 0) ∧ w'.cell? ⟨g, o + i * 6 + 2, none⟩ = some (.int .i64 0) ∧ w'.cell? ⟨g, o + i * 6 + 3, none⟩ = some (.int .i64 x) ∧ w'.cell? ⟨g, o + i * 6 + 4, none⟩ = some (.string ⟨#[]⟩) ∧ w'.cell? ⟨g, o + i * 6 + 5, none⟩ = some (.bool false)) := hide fun w' hC => by
    have hb := Below.then hb1 hC.bel
    have hv := (unhide HV).on hb i _ hi
    exact ⟨kept_cell hb p0, kept_cell hb p1, hv 0 _ rfl, hv 1 _ rfl, hv 2 _ rfl, hv 3 _ rfl, hv 4 _ rfl, hv 5 _ rfl⟩
  have HB := hide hb0
  have HB1 := hide hb1
  clear h hi hn hlt hb0 hb1 p0 p1 HV
  go_enter Tryz.func67, Tryz.ntmps67
  go_wp2_with fail
  clear hW1 hW0
  refine wp_region_cls_tail 8 (ClsV W1) (by kernel_rfl) (by kernel_rfl) (by kernel_rfl) (unhide HX) ?_
  simp only [List.take_succ_cons, List.take_zero, List.drop_succ_cons, List.drop_zero]
  repeat
    (first
      | go_big_quiet_skip
      | (go_big_quiet_want
         go_big_quiet_op
         first
           | go_big_quiet_on
           | (apply Exists.intro
              refine ⟨fun w' hC => ?_, ?_⟩
              · (first
                  | (go_at_call 97; refine (unhide HS _).mono ?_; rintro e w3 ⟨rfl, hb3⟩; exact ⟨rfl, ⟨Below.then hC.bel hb3⟩⟩)
                  | (obtain ⟨k0, k1, k2, k3, k4, k5, k6, k7⟩ := unhide HCE _ hC; go_simp; first | done | rfl))
              go_big_quiet_on)))
  refine wpQuiet_nil ?_
  intro w4 hC4
  have hr := NumAt.below (unhide HR) hC4.bel
  have hP := hr.put 0 x
  have hB := putN_below (Below.then (unhide HB) (Below.then (unhide HB1) hC4.bel)) (unhide HB).size 0 x
  obtain ⟨q0, q1, q2, q3⟩ := hr
  clear HCE HX HS HR HB HB1 hC4
  go_wp2
  show bodyPost _ _ _ _ _ (putN w4 W0.heap.size 0 x)
  generalize putN w4 W0.heap.size 0 x = X at hP hB ⊢
  obtain ⟨x0, x1, _, _⟩ := hP
  refine bodyPost_ret (v := .agg #[.int .i64 0, .int .i64 x]) ?_ rfl ⟨rfl, hB⟩
  simp [results, Tryz.results67, go_sem, x0, x1]
set_option maxRecDepth 100000 in
theorem placesBelow_two (w : World) : Calls Tryz.prog 86 #[.agg #[.int .i64 0, .int .i64 2000000], .string ⟨#[49, 50, 51, 52, 53]⟩] w fun e w' => e = .returned (.int .i64 1) ∧ Below w.heap.size w w' := by
  go_enter Tryz.func86, Tryz.ntmps86
  go_wp2
  go_ret
  exact ⟨rfl, (Below.refl _ _).alloc (Nat.le_refl _) _⟩
set_option maxRecDepth 100000 in
theorem placesBelow_five (w : World) : Calls Tryz.prog 86 #[.agg #[.int .i64 0, .int .i64 5000000], .string ⟨#[49, 50, 51, 52, 53]⟩] w fun e w' => e = .returned (.int .i64 4) ∧ Below w.heap.size w w' := by
  go_enter Tryz.func86, Tryz.ntmps86
  go_wp2
  go_ret
  exact ⟨rfl, (Below.refl _ _).alloc (Nat.le_refl _) _⟩
theorem vaNaN_any (k v : Int) (w : World) :
    Calls Tryz.prog 84 #[.agg #[.int .i64 k, .int .i64 v]] w fun e w' => e = .returned (.bool (k == 1)) ∧ Below w.heap.size w w' := by
  go_enter Tryz.func84, Tryz.ntmps84
  go_wp2
  go_ret
  exact ⟨rfl, (Below.refl _ _).alloc (Nat.le_refl _) _⟩
def plN (v : Int) : Int := if v = 2000000 then 1 else 4
theorem plN2 : plN 2000000 = 1 := rfl
theorem plN5 : plN 5000000 = 4 := rfl
theorem placesBelow_live (v : Int) (h : v = 2000000 ∨ v = 5000000) (w : World) : Calls Tryz.prog 86 #[.agg #[.int .i64 0, .int .i64 v], .string ⟨#[49, 50, 51, 52, 53]⟩] w fun e w' => e = .returned (.int .i64 (plN v)) ∧ Below w.heap.size w w' := by
  rcases h with rfl | rfl
  · exact placesBelow_two w
  · exact placesBelow_five w
set_option maxRecDepth 100000 in
set_option maxHeartbeats 4000000 in
theorem substring_live (g o cap : Nat) (w : World) (hV : ValsAt w g o [txtP ⟨#[49, 50, 51, 52, 53]⟩, numP 1500000, numP 2600000])
    (HC : ∀ w, Calls Tryz.prog 85 #[.string ⟨#[49, 50, 51, 52, 53]⟩, .int .i64 1, .int .i64 4] w fun e w' => e = .returned (.string ⟨#[50, 51, 52]⟩) ∧ Below w.heap.size w w') :
    Calls Tryz.prog 46 #[.agg #[.pointer none, .slice (some ⟨g, o, none⟩) 3 cap]] w fun e W' => e = .returned (.agg #[.int .i64 2, .slice none 0 0, .int .i64 0, .int .i64 0, .string ⟨#[50, 51, 52]⟩, .bool false, .int .i64 0]) ∧ Below w.heap.size w W' := by
  have HT : Hid (∀ W, Below w.heap.size w W → Calls Tryz.prog 75 #[.agg #[.pointer none, .slice (some ⟨g, o, none⟩) 3 cap], .int .i64 0] W fun e w' => e = .returned (.string ⟨#[49, 50, 51, 52, 53]⟩) ∧ Below W.heap.size W w') :=
    hide fun W hb => text_at W g o 3 cap 0 _ _ (hV.on hb) rfl rfl
  have HN1 : Hid (∀ W, Below w.heap.size w W → Calls Tryz.prog 67 #[.agg #[.pointer none, .slice (some ⟨g, o, none⟩) 3 cap], .int .i64 1] W fun e w' => e = .returned (.agg #[.int .i64 0, .int .i64 1500000]) ∧ Below W.heap.size W w') :=
    hide fun W hb => number_at W g o 3 cap 1 _ _ (hV.on hb) rfl rfl
  have HN2 : Hid (∀ W, Below w.heap.size w W → Calls Tryz.prog 67 #[.agg #[.pointer none, .slice (some ⟨g, o, none⟩) 3 cap], .int .i64 2] W fun e w' => e = .returned (.agg #[.int .i64 0, .int .i64 2600000]) ∧ Below W.heap.size W w') :=
    hide fun W hb => number_at W g o 3 cap 2 _ _ (hV.on hb) rfl rfl
  have HR1 := hide (fun W => round_fin 1500000 W)
  have HR2 := hide (fun W => round_fin 2600000 W)
  rw [show wrap64 (wrap64 (1500000 + 500000) - wrap64 (1500000 + 500000) % 1000000) = 2000000 by decide +kernel] at HR1
  rw [show wrap64 (wrap64 (2600000 + 500000) - wrap64 (2600000 + 500000) % 1000000) = 3000000 by decide +kernel] at HR2
  have HA := hide (fun W => add_fin 2000000 3000000 W (by decide) (by decide))
  rw [show signK (decide ((2000000 : Int) + 3000000 < 0)) ((2000000 : Int) + 3000000).natAbs = 0 by decide, show signN (decide ((2000000 : Int) + 3000000 < 0)) ((2000000 : Int) + 3000000).natAbs = 5000000 by decide] at HA
  have HCC := hide HC
  clear hV HC
  obtain ⟨W0, hW0⟩ : ∃ W0, (w.alloc (.cells #[.pointer none, .slice (some ⟨g, o, none⟩) 3 cap] 64)).alloc (.cells #[.int .i64 0, .slice none 0 0, .int .i64 0, .int .i64 0, .string ⟨#[]⟩, .bool false, .int .i64 0] 62) = W0 := ⟨_, rfl⟩
  have hb0 : Below w.heap.size w W0 := by rw [← hW0]; (repeat first | exact Below.refl _ _ | refine Below.alloc ?_ (by simp <;> omega) _)
  have p0 : W0.cell? ⟨w.heap.size, 0, none⟩ = some (.pointer none) := by rw [← hW0]; simp [go_sem]
  have p1 : W0.cell? ⟨w.heap.size, 1, none⟩ = some (.slice (some ⟨g, o, none⟩) 3 cap) := by rw [← hW0]; simp [go_sem]
  have z0 : W0.heap[w.heap.size + 1]? = some (.cells #[.int .i64 0, .slice none 0 0, .int .i64 0, .int .i64 0, .string ⟨#[]⟩, .bool false, .int .i64 0] 62 (0, 0)) := by rw [← hW0]; have h := new_block (w.alloc (.cells #[.pointer none, .slice (some ⟨g, o, none⟩) 3 cap] 64)) (.cells #[.int .i64 0, .slice none 0 0, .int .i64 0, .int .i64 0, .string ⟨#[]⟩, .bool false, .int .i64 0] 62); rw [World.size_alloc] at h; exact h
  have HZ := hide z0
  have HB0 := hide hb0
  clear z0 hb0
  go_enter Tryz.func46, Tryz.ntmps46
  go_wp2_with fail
  clear hW0
  refine (unhide HT W0 (unhide HB0)).mono ?_
  rintro e w1 ⟨rfl, hb1⟩
  replace p0 := kept_cell hb1 p0
  replace p1 := kept_cell hb1 p1
  have HB1 := hide (Below.then (unhide HB0) hb1)
  have HZ1 := hide (block_kept (unhide HZ) hb1)
  clear hb1 HB0 HZ
  go_wp2_with fail
  refine (unhide HN1 w1 (unhide HB1)).mono ?_
  rintro e w2 ⟨rfl, hb2⟩
  replace p0 := kept_cell hb2 p0
  replace p1 := kept_cell hb2 p1
  have HB2 := hide (Below.then (unhide HB1) hb2)
  have HZ2 := hide (block_kept (unhide HZ1) hb2)
  clear hb2 HB1 HZ1
  go_wp2_with fail
  refine (unhide HR1 w2).mono ?_
  rintro e w3 ⟨rfl, hb3⟩
  replace p0 := kept_cell hb3 p0
  replace p1 := kept_cell hb3 p1
  have HB3 := hide (Below.then (unhide HB2) hb3)
  have HZ3 := hide (block_kept (unhide HZ2) hb3)
  clear hb3 HB2 HZ2
  have hlt3 : w.heap.size < w3.heap.size := by have := (Array.getElem?_eq_some_iff.1 (unhide HZ3)).1; omega
  go_wp2_with fail
  obtain ⟨W4, hW4⟩ : ∃ W4, (w3.alloc (.cells #[.int .i64 0, .int .i64 2000000] 32)).alloc (.cells #[.int .i64 2, .int .i64 0] 32) = W4 := ⟨_, rfl⟩
  have hb4 : Below w3.heap.size w3 W4 := by rw [← hW4]; (repeat first | exact Below.refl _ _ | refine Below.alloc ?_ (by simp <;> omega) _)
  have n4 : NumAt W4 w3.heap.size 0 2000000 := by rw [← hW4]; exact ⟨by simp [go_sem], by simp [go_sem], by simp [go_sem], by simp [go_sem]⟩
  have m4 : NumAt W4 (w3.heap.size + 1) 2 0 := by rw [← hW4]; exact ⟨by simp [go_sem], by simp [go_sem], by simp [go_sem], by simp [go_sem]⟩
  rw [hW4]
  replace p0 := kept_cell hb4 p0
  replace p1 := kept_cell hb4 p1
  have HB4 := hide (Below.then (unhide HB3) hb4)
  have HZ4 := hide (block_kept (unhide HZ3) hb4)
  have HM4 := hide m4
  have h3l : Hid (w.heap.size + 2 ≤ w3.heap.size) := hide (by have := (Array.getElem?_eq_some_iff.1 (unhide HZ3)).1; omega)
  obtain ⟨c0, c1, c2, c3⟩ := n4
  clear hb4 HB3 HZ3 m4 hW4 hlt3
  generalize w3.heap.size = b3 at *
  have HX : Hid (ClsV W4 W4.drew) := hide ⟨(Below.refl _ _).drew⟩
  have HCE : Hid (∀ w', ClsV W4 w' → w'.cell? ⟨w.heap.size, 0, none⟩ = some (.pointer none) ∧ w'.cell? ⟨w.heap.size, 1, none⟩ = some (.slice (some ⟨g, o, none⟩) 3 cap) ∧ w'.cell? ⟨b3, 0, none⟩ = some (.int .i64 0) ∧ w'.cell? ⟨b3, 1, none⟩ = some (.int .i64 2000000)) := hide fun w' hC => ⟨kept_cell hC.bel p0, kept_cell hC.bel p1, kept_cell hC.bel c0, kept_cell hC.bel c1⟩
  have HC0 := hide (And.intro c0 c1)
  clear p0 p1 c0 c1 c2 c3
  refine wp_region_cls_tail 5 (ClsV W4) (by kernel_rfl) (by kernel_rfl) (by kernel_rfl) (unhide HX) ?_
  simp only [List.take_succ_cons, List.take_zero, List.drop_succ_cons, List.drop_zero]
  repeat
    (first
      | go_big_quiet_skip
      | (go_big_quiet_want
         go_big_quiet_op
         first
           | go_big_quiet_on
           | (apply Exists.intro
              refine ⟨fun w' hC => ?_, ?_⟩
              · (first
                  | (go_at_call 67; refine (unhide HN2 _ (Below.then (unhide HB4) hC.bel)).mono ?_; rintro e w5 ⟨rfl, hb5⟩; exact ⟨rfl, ⟨Below.then hC.bel hb5⟩⟩)
                  | (go_at_call 70; refine (unhide HR2 _).mono ?_; rintro e w5 ⟨rfl, hb5⟩; exact ⟨rfl, ⟨Below.then hC.bel hb5⟩⟩)
                  | (go_at_call 73; refine (unhide HA _).mono ?_; rintro e w5 ⟨rfl, hb5⟩; exact ⟨rfl, ⟨Below.then hC.bel hb5⟩⟩)
                  | (obtain ⟨k0, k1, k2, k3⟩ := unhide HCE _ hC; go_simp; first | done | rfl))
              go_big_quiet_on)))
  refine wpQuiet_nil ?_
  intro w5 hC5
  obtain ⟨q0, q1, q2, q3⟩ := NumAt.below (unhide HM4) hC5.bel
  have hP := (NumAt.below (unhide HM4) hC5.bel).put 0 5000000
  have hz5 := block_kept (unhide HZ4) hC5.bel
  have hz6 : (putN w5 (b3 + 1) 0 5000000).heap[w.heap.size + 1]? = _ := (show _ = w5.heap[w.heap.size + 1]? by unfold putN; have := unhide h3l; rw [Below.heap_setCell _ _ _ _ (by simp; omega), Below.heap_setCell _ _ _ _ (by simp; omega)]).trans hz5
  have hB6 := putN_below (Below.then (unhide HB4) hC5.bel) (show w.heap.size ≤ b3 + 1 by have := unhide h3l; omega) 0 5000000
  have hc6 : (putN w5 (b3 + 1) 0 5000000).cell? ⟨b3, 0, none⟩ = some (.int .i64 0) ∧ (putN w5 (b3 + 1) 0 5000000).cell? ⟨b3, 1, none⟩ = some (.int .i64 2000000) := by
    have h := World.cell?_of_block (a := ⟨b3, 0, none⟩) (show (putN w5 (b3 + 1) 0 5000000).heap[b3]? = w5.heap[b3]? by unfold putN; rw [Below.heap_setCell _ _ _ _ (by simp), Below.heap_setCell _ _ _ _ (by simp)])
    have h' := World.cell?_of_block (a := ⟨b3, 1, none⟩) (show (putN w5 (b3 + 1) 0 5000000).heap[b3]? = w5.heap[b3]? by unfold putN; rw [Below.heap_setCell _ _ _ _ (by simp), Below.heap_setCell _ _ _ _ (by simp)])
    exact ⟨h.trans (kept_cell hC5.bel (unhide HC0).1), h'.trans (kept_cell hC5.bel (unhide HC0).2)⟩
  have HNN := hide vaNaN_any
  obtain ⟨X, hX⟩ : ∃ X, putN w5 (b3 + 1) 0 5000000 = X := ⟨_, rfl⟩
  rw [hX] at hz6 hB6 hc6 hP
  unfold putN at hX
  obtain ⟨c0, c1⟩ := hc6
  obtain ⟨d0, d1, _, _⟩ := hP
  have HZ6 := hide hz6
  have HB6 := hide hB6
  clear HCE HX HN1 HN2 HR1 HR2 HA HT HB4 HZ4 HM4 HC0 hC5 hz5 hz6 hB6
  go_wp2_with fail
  clear hX
  refine (unhide HNN 0 2000000 X).mono ?_
  rintro e w6 ⟨rfl, hb6⟩
  replace c0 := kept_cell hb6 c0
  replace c1 := kept_cell hb6 c1
  replace d0 := kept_cell hb6 d0
  replace d1 := kept_cell hb6 d1
  have HB7 := hide ((unhide HB6).trans (hb6.mono (unhide HB6).size))
  have HZ7 := hide (block_kept (unhide HZ6) hb6)
  clear hb6 HB6 HZ6
  go_wp2_with fail
  refine (unhide HNN 0 5000000 w6).mono ?_
  rintro e w7 ⟨rfl, hb7⟩
  replace c0 := kept_cell hb7 c0
  replace c1 := kept_cell hb7 c1
  replace d0 := kept_cell hb7 d0
  replace d1 := kept_cell hb7 d1
  have HB8 := hide ((unhide HB7).trans (hb7.mono (unhide HB7).size))
  have HZ8 := hide (block_kept (unhide HZ7) hb7)
  clear hb7 HB7 HZ7
  go_wp2_with fail
  have HX : Hid (ClsV w7 w7.drew) := hide ⟨(Below.refl _ _).drew⟩
  have HCE : Hid (∀ w', ClsV w7 w' → w'.cell? ⟨b3, 0, none⟩ = some (.int .i64 0) ∧ w'.cell? ⟨b3, 1, none⟩ = some (.int .i64 2000000) ∧ w'.cell? ⟨b3 + 1, 0, none⟩ = some (.int .i64 0) ∧ w'.cell? ⟨b3 + 1, 1, none⟩ = some (.int .i64 5000000)) := hide fun w' hC => ⟨kept_cell hC.bel c0, kept_cell hC.bel c1, kept_cell hC.bel d0, kept_cell hC.bel d1⟩
  have HPL := hide placesBelow_live
  have HAT := hide aText_any
  clear c0 c1 d0 d1 HNN
  refine wp_region_cls_tail 9 (ClsV w7) (by kernel_rfl) (by kernel_rfl) (by kernel_rfl) (unhide HX) ?_
  simp only [List.take_succ_cons, List.take_zero, List.drop_succ_cons, List.drop_zero]
  repeat
    (first
      | go_big_quiet_skip
      | (go_big_quiet_want
         go_big_quiet_op
         first
           | go_big_quiet_on
           | (apply Exists.intro
              refine ⟨fun w' hC => ?_, ?_⟩
              · (first
                  | (go_at_call 86; refine (unhide HPL _ (by first | exact .inl rfl | exact .inr rfl) _).mono ?_; rintro e w8 ⟨he, hb8⟩; (first | rw [plN2] at he | rw [plN5] at he); subst he; exact ⟨rfl, ⟨Below.then hC.bel hb8⟩⟩)
                  | (go_at_call 85; refine (unhide HCC _).mono ?_; rintro e w8 ⟨rfl, hb8⟩; exact ⟨rfl, ⟨Below.then hC.bel hb8⟩⟩)
                  | (go_at_call 74; refine (unhide HAT _ _).mono ?_; rintro e w8 ⟨rfl, hb8⟩; exact ⟨rfl, ⟨Below.then hC.bel hb8⟩⟩)
                  | (obtain ⟨k0, k1, k2, k3⟩ := unhide HCE _ hC; go_simp; first | done | rfl))
              go_big_quiet_on)))
  refine wpQuiet_nil ?_
  intro w8 hC8
  have hz8 := block_kept (unhide HZ8) hC8.bel
  have hB8 := (unhide HB8).trans (hC8.bel.mono (unhide HB8).size)
  obtain ⟨W9, hW9, hz9, _, hb9⟩ := put7 hz8 (.int .i64 2) (.slice none 0 0) (.int .i64 0) (.int .i64 0) (.string ⟨#[50, 51, 52]⟩) (.bool false) (.int .i64 0)
  have y0 := blk_c hz8 0
  have y1 := blk_c hz8 1
  have y2 := blk_c hz8 2
  have y3 := blk_c hz8 3
  have y4 := blk_c hz8 4
  have y5 := blk_c hz8 5
  have y6 := blk_c hz8 6
  have hfr := blk_o hz8
  have HZ9 := hide hz9
  have HB9 := hide (hB8.trans (hb9.mono (by omega)))
  clear hz9 hb9 hz8 hB8 HZ8 HB8 HX HCE HPL HAT HCC hC8
  go_wp2
  have hz9 := unhide HZ9
  have d0 := blk_c hz9 0
  have d1 := blk_c hz9 1
  have d2 := blk_c hz9 2
  have d3 := blk_c hz9 3
  have d4 := blk_c hz9 4
  have d5 := blk_c hz9 5
  have d6 := blk_c hz9 6
  refine bodyPost_ret (v := .agg #[.int .i64 2, .slice none 0 0, .int .i64 0, .int .i64 0, .string ⟨#[50, 51, 52]⟩, .bool false, .int .i64 0]) (by simp [results, Tryz.results46, go_sem, d0, d1, d2, d3, d4, d5, d6]) rfl ⟨rfl, unhide HB9⟩
end Go.Proofs.YtppkilblkobkhaaGreatDoor
