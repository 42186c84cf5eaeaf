/- The law XvalueUnion. -/
import Derived.Test.YtppkilblkobkhaaGreatDoorVaUn
import Derived.Test.YtppkilblkobkhaaGreatDoorLines
namespace Go.Proofs.YtppkilblkobkhaaGreatDoor
open Go.RowKit
theorem same_true {v u : Value} {l m : List Int} {w : World} (hv : IntsV w v l) (hu : IntsV w u m) (e : l = m) (hl : l.length ≤ 9000000) :
    Calls Tryz.prog 9 #[v, u] w fun e w' => e = .returned (.bool true) ∧ Below w.heap.size w w' := by
  have h := sameInts_any v u l m w hv hu hl
  rw [show decide (l = m) = true from decide_eq_true e] at h
  exact h
theorem set_self {l : List Int} {P : Int → Prop} (h : SetL l P) : SetL l (fun x => x ∈ l) := ⟨h.1, fun _ => Iff.rfl⟩
set_option maxRecDepth 100000 in
set_option maxHeartbeats 4000000 in
theorem union_walk (va vb vc : Value) (a b c : List Int) (w : World) (hA : IntsV w va a) (hB : IntsV w vb b) (hC : IntsV w vc c) (la : a.length ≤ 1048576) (lb : b.length ≤ 1048576) (lc : c.length ≤ 1048576) (_hE : Env w) :
    Calls Tryz.prog 3 #[va, vb, vc] w fun e w' => e = .returned (.bool true) ∧ Below w.heap.size w w' := by
  have HA := hide hA
  have HB := hide hB
  have HC := hide hC
  have HL := hide live7_any
  obtain ⟨aa, ca, rfl, _⟩ := hA
  obtain ⟨ab, cb, rfl, _⟩ := hB
  obtain ⟨ac, cc, rfl, _⟩ := hC
  have HU1 := hide (union_any _ _ a b w (unhide HA) (unhide HB) (by omega))
  go_enter Tryz.func3, Tryz.ntmps3
  go_wp2_with fail
  refine (unhide HU1).mono ?_
  rintro e w1 ⟨⟨r, U, rfl, hI1, hS1, hl1⟩, hb1⟩
  have HI1 := hide hI1
  have HS1 := hide hS1
  have HB1 := hide hb1
  obtain ⟨ar, cr, rfl, _, hcl⟩ := hI1
  have HCL := hide hcl
  clear hS1 hb1 HU1 hcl
  have HU2 := hide (refUnion_any _ _ a b w1 ((unhide HA).on (unhide HB1)) ((unhide HB).on (unhide HB1)) (by omega))
  go_wp2_with fail
  refine (unhide HU2).mono ?_
  rintro e w2 ⟨⟨r2, U2, rfl, hI2, hS2, hl2⟩, hb2⟩
  have HB2 := hide (Below.then (unhide HB1) hb2)
  have HI12 := hide ((unhide HI1).on hb2)
  have HM2 := hide (same_true (unhide HI12) hI2 (set_unique (unhide HS1) hS2) (by omega))
  obtain ⟨a2, c2, rfl, _⟩ := hI2
  clear hS2 hb2 HU2 HI1
  go_wp2_with fail
  refine (unhide HM2).mono ?_
  rintro e w3 ⟨rfl, hb3⟩
  have HB3 := hide (Below.then (unhide HB2) hb3)
  have HI13 := hide ((unhide HI12).on hb3)
  clear hb3 HM2 HI12 HB2
  have HU3 := hide (union_any _ _ b a w3 ((unhide HB).on (unhide HB3)) ((unhide HA).on (unhide HB3)) (by omega))
  go_wp2_with fail
  refine (unhide HU3).mono ?_
  rintro e w4 ⟨⟨r4, U4, rfl, hI4, hS4, hl4⟩, hb4⟩
  have HB4 := hide (Below.then (unhide HB3) hb4)
  have HI14 := hide ((unhide HI13).on hb4)
  have HM4 := hide (same_true (unhide HI14) hI4 (set_unique (unhide HS1) (set_cong hS4 fun x => Or.comm)) (by omega))
  obtain ⟨a4, c4, rfl, _⟩ := hI4
  clear hS4 hb4 HU3 HI13 HB3
  go_wp2_with fail
  refine (unhide HM4).mono ?_
  rintro e w5 ⟨rfl, hb5⟩
  have HB5 := hide (Below.then (unhide HB4) hb5)
  have HI15 := hide ((unhide HI14).on hb5)
  clear hb5 HM4 HI14 HB4
  have HU5 := hide (union_any _ _ U U w5 (unhide HI15) (unhide HI15) (by omega))
  go_wp2_with fail
  refine (unhide HU5).mono ?_
  rintro e w6 ⟨⟨r6, U6, rfl, hI6, hS6, hl6⟩, hb6⟩
  have HB6 := hide (Below.then (unhide HB5) hb6)
  have HI16 := hide ((unhide HI15).on hb6)
  have HM6 := hide (same_true hI6 (unhide HI16) (set_unique (set_cong hS6 fun x => or_self_iff) (set_self (unhide HS1))) (by omega))
  obtain ⟨a6, c6, rfl, _⟩ := hI6
  clear hS6 hb6 HU5 HI15 HB5
  go_wp2_with fail
  refine (unhide HM6).mono ?_
  rintro e w7 ⟨rfl, hb7⟩
  have HB7 := hide (Below.then (unhide HB6) hb7)
  have HI17 := hide ((unhide HI16).on hb7)
  clear hb7 HM6 HI16 HB6
  go_upto_block 0 with fail
  go_cut [7] (fun x wx => x = .slice ar U.length cr ∧ Below w7.heap.size w7 wx)
  case first =>
    go_wp2_with fail
    go_loopw [8] (fun i wr => ∃ k : Nat, i = .int .i64 (k : Nat) ∧ 1 ≤ k ∧ Below w7.heap.size w7 wr) (fun i _ => U.length - (intOf i).toNat)
    case atStart => exact ⟨1, rfl, Nat.le_refl _, Below.refl _ _⟩
    case round =>
      obtain ⟨k, rfl, hk, hbr⟩ := hrel
      by_cases h1 : k < U.length
      · obtain ⟨_, _, e0, _, hcell⟩ := (unhide HI17).on hbr
        cases e0
        obtain ⟨g, o, rfl, hc⟩ := hcell (by intro e; rw [e] at h1; cases h1)
        have hk1 : k - 1 < U.length := by omega
        have c1 := hc k _ (List.getElem?_eq_getElem h1)
        have c2 := hc (k - 1) _ (List.getElem?_eq_getElem hk1)
        have hlt := List.pairwise_iff_getElem.1 (unhide HS1).1 (k - 1) k hk1 h1 (by omega)
        have HX : Hid (ClsV wr wr.drew) := hide ⟨(Below.refl _ _).drew⟩
        have HCE : Hid (∀ w', ClsV wr w' → w'.cell? ⟨g, o + k, none⟩ = some (.int .i64 U[k]) ∧ w'.cell? ⟨g, o + (k - 1), none⟩ = some (.int .i64 U[k - 1])) := hide fun w' hC => ⟨kept_cell hC.bel c1, kept_cell hC.bel c2⟩
        have HBR := hide hbr
        have n1 : (k : Int) < (U.length : Int) := by omega
        have n0 : (0 : Int) ≤ (k : Int) := by omega
        have n2 : (0 : Int) ≤ (k : Int) - 1 := by omega
        have n3 : (k : Int) - 1 < (U.length : Int) := by omega
        have hle : decide (U[k] ≤ U[k - 1]) = false := by simp; omega
        have HW := hide (show Value.int .i64 ((k : Int) + 1) = .int .i64 ((k + 1 : Nat) : Int) ∧ U.length - (intOf (Value.int .i64 ((k : Int) + 1))).toNat < U.length - (intOf (Value.int .i64 (k : Int))).toNat from ⟨by rw [Int.natCast_add]; rfl, by simp only [intOf]; omega⟩)
        clear hc hcell c1 c2 hlt hbr
        generalize U[k] = X at *
        generalize U[k - 1] = Y at *
        go_wp2_with fail
        refine wp_region_cls (ClsV wr) (by kernel_rfl) (by kernel_rfl) (unhide HX) ?_
        repeat
          (first
            | go_big_quiet_skip
            | (go_big_quiet_want
               go_big_quiet_op
               first
                 | go_big_quiet_on
                 | (apply Exists.intro
                    refine ⟨fun w' hC => ?_, ?_⟩
                    · (obtain ⟨k0, k1⟩ := unhide HCE _ hC; go_simp; first | done | rfl)
                    go_big_quiet_on)))
        refine wpQuiet_nil ?_
        intro w8 hC8
        have HB8 := hide (Below.then (unhide HBR) hC8.bel)
        clear HX HCE hC8
        go_wp2
        go_roundw
        case rel => exact ⟨k + 1, (unhide HW).1, by omega, unhide HB8⟩
        case measure => exact (unhide HW).2
      · have n1 : ¬ (k : Int) < (U.length : Int) := by omega
        have HBR := hide hbr
        clear hbr
        go_wp2_with fail
        go_meet
        exact ⟨rfl, unhide HBR⟩
  case rest =>
    obtain ⟨rfl, hb8⟩ := hcut
    have HB8 := hide (Below.then (unhide HB7) hb8)
    have HI18 := hide ((unhide HI17).on hb8)
    clear hb8 HI17 HB7
    go_wp2_with fail
    refine (unhide HL _).mono ?_
    rintro e w9 ⟨rfl, hb9⟩
    have HB9 := hide (Below.then (unhide HB8) hb9)
    have HI19 := hide ((unhide HI18).on hb9)
    clear hb9 HI18 HB8
    have HU9 := hide (union_any _ _ U c w9 (unhide HI19) ((unhide HC).on (unhide HB9)) (by omega))
    go_wp2_with fail
    refine (unhide HU9).mono ?_
    rintro e w10 ⟨⟨r10, U10, rfl, hI10, hS10, hl10⟩, hb10⟩
    have HB10 := hide (Below.then (unhide HB9) hb10)
    have HI10 := hide hI10
    have HS10 := hide hS10
    obtain ⟨a10, c10, rfl, _⟩ := hI10
    clear hS10 hb10 HU9 HI19 HB9
    have HU10 := hide (union_any _ _ b c w10 ((unhide HB).on (unhide HB10)) ((unhide HC).on (unhide HB10)) (by omega))
    go_wp2_with fail
    refine (unhide HU10).mono ?_
    rintro e w11 ⟨⟨r11, U11, rfl, hI11, hS11, hl11⟩, hb11⟩
    have HB11 := hide (Below.then (unhide HB10) hb11)
    have HI101 := hide ((unhide HI10).on hb11)
    have HS11 := hide hS11
    have HU11 := hide (union_any _ _ a U11 w11 ((unhide HA).on (unhide HB11)) hI11 (by omega))
    obtain ⟨a11, c11, rfl, _⟩ := hI11
    clear hS11 hb11 HU10 HI10 HB10
    go_wp2_with fail
    refine (unhide HU11).mono ?_
    rintro e w12 ⟨⟨r12, U12, rfl, hI12, hS12, hl12⟩, hb12⟩
    have HB12 := hide (Below.then (unhide HB11) hb12)
    have HM12 := hide (same_true ((unhide HI101).on hb12) hI12 (set_unique (P := fun x => x ∈ a ∨ x ∈ b ∨ x ∈ c) (set_cong (unhide HS10) fun x => by rw [(unhide HS1).2 x, or_assoc]) (set_cong hS12 fun x => by rw [(unhide HS11).2 x])) (by omega))
    obtain ⟨a12, c12, rfl, _⟩ := hI12
    clear hS12 hb12 HU11 HI101 HB11
    go_wp2_with fail
    refine (unhide HM12).mono ?_
    rintro e w13 ⟨rfl, hb13⟩
    have HB13 := hide (Below.then (unhide HB12) hb13)
    clear hb13 HM12 HB12
    go_wp2
    go_ret
    exact ⟨rfl, unhide HB13⟩
end Go.Proofs.YtppkilblkobkhaaGreatDoor
