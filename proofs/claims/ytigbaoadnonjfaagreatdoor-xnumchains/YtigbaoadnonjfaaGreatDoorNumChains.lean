/- Less orders all numbers: the law XnumChains. -/
import Derived.Test.YtigbaoadnonjfaaGreatDoorNumKey
import Derived.Test.YtigbaoadnonjfaaGreatDoorNumLive
namespace Go.Proofs.YtigbaoadnonjfaaGreatDoor
open Go.RowKit
attribute [local go_sem ↓] Go.wp_at_zero Go.wp_at_succ
set_option maxRecDepth 100000 in
set_option maxHeartbeats 2000000 in
theorem chains_walk (k v l u m x : Int) (w : World) (hE : NumEnv w) :
    Calls Tryz.prog 3 #[.agg #[.int .i64 k, .int .i64 v], .agg #[.int .i64 l, .int .i64 u], .agg #[.int .i64 m, .int .i64 x]] w fun e w' => e = .returned (.bool true) ∧ Below w.heap.size w w' := by
  have HE := hide hE
  clear hE
  go_enter Tryz.func3, Tryz.ntmps3
  go_wp2_with fail
  refine (right_any k v l u _).mono ?_
  rintro e w1 ⟨rfl, hb1⟩
  have hb0 : Below w.heap.size w (((w.alloc (.cells #[.int .i64 k, .int .i64 v] 24)).alloc (.cells #[.int .i64 l, .int .i64 u] 24)).alloc (.cells #[.int .i64 m, .int .i64 x] 24)) := by
    (repeat first | exact Below.refl _ _ | assumption | refine Below.drew ?_ | refine Below.alloc ?_ (by simp <;> omega) _ | refine Below.setCell ?_ (by simp <;> omega) _)
  have hA : NumAt w1 w.heap.size k v := NumAt.below (w := (((w.alloc (.cells #[.int .i64 k, .int .i64 v] 24)).alloc (.cells #[.int .i64 l, .int .i64 u] 24)).alloc (.cells #[.int .i64 m, .int .i64 x] 24))) ⟨by simp [go_sem], by simp [go_sem], by simp [go_sem], by simp [go_sem]⟩ hb1
  have hB : NumAt w1 (w.heap.size + 1) l u := NumAt.below (w := (((w.alloc (.cells #[.int .i64 k, .int .i64 v] 24)).alloc (.cells #[.int .i64 l, .int .i64 u] 24)).alloc (.cells #[.int .i64 m, .int .i64 x] 24))) ⟨by simp [go_sem], by simp [go_sem], by simp [go_sem], by simp [go_sem]⟩ hb1
  have hC : NumAt w1 (w.heap.size + 1 + 1) m x := NumAt.below (w := (((w.alloc (.cells #[.int .i64 k, .int .i64 v] 24)).alloc (.cells #[.int .i64 l, .int .i64 u] 24)).alloc (.cells #[.int .i64 m, .int .i64 x] 24))) ⟨by simp [go_sem], by simp [go_sem], by simp [go_sem], by simp [go_sem]⟩ hb1
  have hb01 := Below.then hb0 hb1
  clear hb0 hb1
  cases hr : (rightB k v && rightB l u)
  · clear hA hB hC hr
    go_wp2_with fail
    refine (live_any _ ((unhide HE).below hb01)).mono ?_
    rintro e w2 ⟨rfl, hb2⟩
    go_wp2
    go_ret
    exact ⟨rfl, Below.then hb01 hb2⟩
  · have hr' : rightB k v = true ∧ rightB l u = true := by simpa using hr
    obtain ⟨r1, r2⟩ := hr'
    have HB := hide hB
    have HA := hide hA
    have HC := hide hC
    obtain ⟨c0, c1, c2, c3⟩ := hC
    clear hA hB hr
    go_wp2_with fail
    refine (refRight_any m x _).mono ?_
    rintro e w2 ⟨rfl, rfl⟩
    have hbR : Below w1.heap.size w1 (w1.alloc (.cells #[.int .i64 m, .int .i64 x] 24)) := by
      (repeat first | exact Below.refl _ _ | assumption | refine Below.drew ?_ | refine Below.alloc ?_ (by simp <;> omega) _ | refine Below.setCell ?_ (by simp <;> omega) _)
    have hb02 := Below.then hb01 hbR
    cases hr3 : rightB m x
    · clear c0 c1 c2 c3 HA HB HC r1 r2
      go_wp2_with fail
      refine (live_any _ ((unhide HE).below hb02)).mono ?_
      rintro e w2 ⟨rfl, hb2⟩
      go_wp2
      go_ret
      exact ⟨rfl, Below.then hb02 hb2⟩
    · have lab := less_key r1 r2
      have lba := less_key r2 r1
      have lbc := less_key r2 hr3
      have lac := less_key r1 hr3
      have hinj := key_inj r1 r2
      have LAB := hide lab
      have LBA := hide lba
      have LBC := hide lbc
      have LAC := hide lac
      have HI := hide hinj
      clear lab lba lbc lac hinj r1 r2 hr3 c0 c1 c2 c3
      obtain ⟨a0, a1, _, _⟩ := (unhide HA).below hbR
      obtain ⟨b0, b1, _, _⟩ := (unhide HB).below hbR
      obtain ⟨c0, c1, _, _⟩ := (unhide HC).below hbR
      generalize hW : w1.alloc (.cells #[.int .i64 m, .int .i64 x] 24) = W at *
      clear hW HA HB HC hbR
      have hS : W.cell? ⟨w.heap.size, 0, none⟩ = some (.int .i64 k) ∧ W.cell? ⟨w.heap.size, 1, none⟩ = some (.int .i64 v) ∧ W.cell? ⟨w.heap.size + 1, 0, none⟩ = some (.int .i64 l) ∧ W.cell? ⟨w.heap.size + 1, 1, none⟩ = some (.int .i64 u) := ⟨a0, a1, b0, b1⟩
      go_wp2_with fail
      clear a0 a1 b0 b1
      go_region_held3 (fun w' => w'.cell? ⟨w.heap.size, 0, none⟩ = some (.int .i64 k) ∧ w'.cell? ⟨w.heap.size, 1, none⟩ = some (.int .i64 v) ∧ w'.cell? ⟨w.heap.size + 1, 0, none⟩ = some (.int .i64 l) ∧ w'.cell? ⟨w.heap.size + 1, 1, none⟩ = some (.int .i64 u))
        (first | exact hS | exact hS4 | exact hS3)
        (first
          | (go_at_call 11; (have := hb3); refine (less_any l u k v _).mono ?_; rintro e w4 ⟨rfl, hb4⟩; (have hS4 : w4.cell? ⟨w.heap.size, 0, none⟩ = some (.int .i64 k) ∧ w4.cell? ⟨w.heap.size, 1, none⟩ = some (.int .i64 v) ∧ w4.cell? ⟨w.heap.size + 1, 0, none⟩ = some (.int .i64 l) ∧ w4.cell? ⟨w.heap.size + 1, 1, none⟩ = some (.int .i64 u) := ⟨kept_cell hb4 hS3.1, kept_cell hb4 hS3.2.1, kept_cell hb4 hS3.2.2.1, kept_cell hb4 hS3.2.2.2⟩))
          | (go_at_call 11; refine (less_any k v l u _).mono ?_; rintro e w3 ⟨rfl, hb3⟩; (have hS3 : w3.cell? ⟨w.heap.size, 0, none⟩ = some (.int .i64 k) ∧ w3.cell? ⟨w.heap.size, 1, none⟩ = some (.int .i64 v) ∧ w3.cell? ⟨w.heap.size + 1, 0, none⟩ = some (.int .i64 l) ∧ w3.cell? ⟨w.heap.size + 1, 1, none⟩ = some (.int .i64 u) := ⟨kept_cell hb3 hS.1, kept_cell hb3 hS.2.1, kept_cell hb3 hS.2.2.1, kept_cell hb3 hS.2.2.2⟩)))
      have d0 := kept_cell hb4 (kept_cell (w := W.drew) hb3 c0)
      have d1 := kept_cell hb4 (kept_cell (w := W.drew) hb3 c1)
      have hb04 : Below w.heap.size w w4 := Below.then hb02.drew (Below.then hb3 hb4)
      have HS := hide hS4
      have HD := hide (And.intro d0 d1)
      clear hS hS3 hS4 hb3 hb4 c0 c1 d0 d1 hb01 hb02
      by_cases hX : keyN k v < keyN l u
      · have e1 : lessB k v l u = true := by rw [unhide LAB]; exact decide_eq_true hX
        have e2 : lessB l u k v = false := by rw [unhide LBA]; exact decide_eq_false (by omega)
        rw [e1, e2]
        go_wp2_with fail
        refine (live_any _ ((unhide HE).below hb04)).mono ?_
        rintro e w5 ⟨rfl, hb5⟩
        obtain ⟨d0, d1⟩ := unhide HD
        obtain ⟨a0, a1, b0, b1⟩ := unhide HS
        have q0 := kept_cell hb5 d0
        have q1 := kept_cell hb5 d1
        have p0 := kept_cell hb5 b0
        have p1 := kept_cell hb5 b1
        have o0 := kept_cell hb5 a0
        have o1 := kept_cell hb5 a1
        have hb05 := Below.then hb04 hb5
        clear d0 d1 a0 a1 b0 b1 hb5 hb04 HS HD
        go_wp2_with fail
        refine (less_any l u m x _).mono ?_
        rintro e w6 ⟨rfl, hb6⟩
        have hb06 := Below.then hb05 hb6
        cases hZ : lessB l u m x
        · go_wp2
          go_ret
          exact ⟨rfl, hb06⟩
        · have hY : keyN l u < keyN m x := by rw [unhide LBC] at hZ; exact of_decide_eq_true hZ
          have e3 : lessB k v m x = true := by rw [unhide LAC]; exact decide_eq_true (by omega)
          have q0' := kept_cell hb6 q0
          have q1' := kept_cell hb6 q1
          have o0' := kept_cell hb6 o0
          have o1' := kept_cell hb6 o1
          clear q0 q1 p0 p1 o0 o1 hb6 hb05
          go_wp2_with fail
          refine (less_any k v m x _).mono ?_
          rintro e w7 ⟨rfl, hb7⟩
          rw [e3]
          go_wp2
          go_ret
          exact ⟨rfl, Below.then hb06 hb7⟩
      · have e1 : lessB k v l u = false := by rw [unhide LAB]; exact decide_eq_false hX
        by_cases hY : keyN l u < keyN k v
        · have e2 : lessB l u k v = true := by rw [unhide LBA]; exact decide_eq_true hY
          rw [e1, e2]
          go_wp2_with fail
          refine (live_any _ ((unhide HE).below hb04)).mono ?_
          rintro e w5 ⟨rfl, hb5⟩
          go_wp2
          go_ret
          exact ⟨rfl, Below.then hb04 hb5⟩
        · have e2 : lessB l u k v = false := by rw [unhide LBA]; exact decide_eq_false hY
          obtain ⟨rfl, rfl⟩ := unhide HI (by omega)
          rw [e1]
          go_wp2_with fail
          refine (live_any _ ((unhide HE).below hb04)).mono ?_
          rintro e w5 ⟨rfl, hb5⟩
          obtain ⟨a0, a1, b0, b1⟩ := unhide HS
          have p0 := kept_cell hb5 b0
          have p1 := kept_cell hb5 b1
          have o0 := kept_cell hb5 a0
          have o1 := kept_cell hb5 a1
          go_wp2
          go_ret
          exact ⟨rfl, Below.then hb04 hb5⟩
end Go.Proofs.YtigbaoadnonjfaaGreatDoor
