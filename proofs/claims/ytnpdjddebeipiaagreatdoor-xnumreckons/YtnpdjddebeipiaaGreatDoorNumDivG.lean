/- A number of 128 bits by any number: math/bits' Div64. -/
import Derived.Test.YtnpdjddebeipiaaGreatDoorNumKnuth
import Derived.Test.YtnpdjddebeipiaaGreatDoorNumNamed
import Derived.Deep.CutBlock
import Derived.Deep.DeepCutAuto
namespace Go.Proofs.YtnpdjddebeipiaaGreatDoor
open Go.RowKit
set_option maxRecDepth 100000 in
set_option maxHeartbeats 4000000 in
theorem div64_walk (hi lo y s Y Y1 Y0 H Lh U N10 V W Z q1 r1 M1 q0 r0 M0 A B C D F R : Nat) (w : World) (h0 : 0 < hi) (h1 : hi < y) (hs : s < 64)
    (hL : ∀ w, Calls Tryz.prog 47 #[.int .u64 (y : Int)] w fun e w' => e = .returned (.int .i64 (s : Int)) ∧ w' = w)
    (a1 : IntKind.u64.wrap ((y : Int) * 2 ^ s) = (Y : Int)) (a2 : (Y : Int) / 4294967296 = (Y1 : Int)) (a3 : bits BinOp.and IntKind.u64 (Y : Int) 4294967295 = (Y0 : Int))
    (a4 : IntKind.u64.wrap ((hi : Int) * 2 ^ s) = (H : Int)) (a5 : (lo : Int) / 2 ^ (64 - s) = (Lh : Int)) (a6 : bits BinOp.or IntKind.u64 (H : Int) (Lh : Int) = (U : Int))
    (a7 : IntKind.u64.wrap ((lo : Int) * 2 ^ s) = (N10 : Int)) (a8 : (N10 : Int) / 4294967296 = (V : Int)) (a9 : bits BinOp.and IntKind.u64 (N10 : Int) 4294967295 = (W : Int))
    (HH1 : Halves Y Y1 Y0 U V) (HH0 : Halves Y Y1 Y0 Z W)
    (b1 : IntKind.u64.wrap ((U : Int) / (Y1 : Int)) = (q1 : Int)) (b2 : IntKind.u64.wrap ((q1 : Int) * (Y1 : Int)) = (M1 : Int)) (b3' : (U : Int) - (M1 : Int) = (r1 : Int))
    (hq1 : U = q1 * Y1 + r1) (hg1 : (U * 4294967296 + V) / Y ≤ q1) (hl1 : q1 ≤ 4294967297) (hr1 : r1 < 4294967296)
    (c1 : IntKind.u64.wrap ((U : Int) * 4294967296) = (A : Int)) (c2 : IntKind.u64.wrap ((((U * 4294967296 + V) / Y : Nat) : Int) * (Y : Int)) = (B : Int)) (c3 : IntKind.u64.wrap ((A : Int) + (V : Int) - (B : Int)) = (Z : Int)) (hA : A ≤ 18446744069414584320)
    (d1 : IntKind.u64.wrap ((Z : Int) / (Y1 : Int)) = (q0 : Int)) (d2 : IntKind.u64.wrap ((q0 : Int) * (Y1 : Int)) = (M0 : Int)) (d3' : (Z : Int) - (M0 : Int) = (r0 : Int))
    (hq0 : Z = q0 * Y1 + r0) (hg0 : (Z * 4294967296 + W) / Y ≤ q0) (hl0 : q0 ≤ 4294967297) (hr0 : r0 < 4294967296)
    (f1 : IntKind.u64.wrap ((Z : Int) * 4294967296) = (C : Int)) (f2 : IntKind.u64.wrap ((((Z * 4294967296 + W) / Y : Nat) : Int) * (Y : Int)) = (D : Int)) (f3 : IntKind.u64.wrap ((C : Int) + (W : Int) - (D : Int)) = (F : Int)) (f4 : (F : Int) / 2 ^ s = (R : Int)) (hC : C ≤ 18446744069414584320) :
    Calls Tryz.prog 41 #[.int .u64 (hi : Int), .int .u64 (lo : Int), .int .u64 (y : Int)] w fun e w' => e = .returned (.tuple #[.int .u64 (((U * 4294967296 + V) / Y * 4294967296 + (Z * 4294967296 + W) / Y : Nat) : Int), .int .u64 (R : Int)]) ∧ Below w.heap.size w w' := by
  have h0' : ((hi : Int) == 0) = false := by simp; omega
  have h0y : ((y : Int) == 0) = false := by simp; omega
  have h1' : ¬ (y : Int) ≤ (hi : Int) := by omega
  have hY0 := HH1.y0
  have hY1 := HH1.y1
  have hY1t := HH1.top
  have hV := HH1.v
  have hW := HH0.v
  have hYz : ((Y1 : Int) == 0) = false := by simp; omega
  have hx1 := HH1.lt
  have hx0 := HH0.lt
  have HK1 := hide HH1
  have HK0 := hide HH0
  have HQ1 := hide (And.intro hq1 hg1)
  have HQ0 := hide (And.intro hq0 hg0)
  have HX := hide (show IntKind.u64.wrap ((((U * 4294967296 + V) / Y : Nat) : Int) * 4294967296) = ((((U * 4294967296 + V) / Y) * 4294967296 : Nat) : Int) by rw [IntKind.wrap_u64]; omega)
  have HL := hide hL
  clear hL HH1 HH0 hq1 hg1 hq0 hg0
  obtain ⟨G1, hG1⟩ : ∃ G, G = (U * 4294967296 + V) / Y := ⟨_, rfl⟩
  obtain ⟨G0, hG0⟩ : ∃ G, G = (Z * 4294967296 + W) / Y := ⟨_, rfl⟩
  rw [← hG1] at c2 hx1 HX HQ1 ⊢
  rw [← hG0] at f2 hx0 HQ0 ⊢
  have HG1 := hide hG1
  have HG0 := hide hG0
  clear hG1 hG0
  go_enter Tryz.func41, Tryz.ntmps41
  go_wp2_with fail
  refine (unhide HL _).mono ?_
  rintro e w1 ⟨rfl, rfl⟩
  clear HL
  go_upto_block 0 with fail
  clear a1 a2 a3 a4 a5 a6 a7 a8 a9 b1 b2 b3' h0' h0y h1'
  go_cut [15, 16] (fun a b wx => a = .int .u64 (G1 : Int) ∧ (∃ x : Int, b = .int .u64 x) ∧ wx = w1)
  case first =>
    have HDN := hide (show ∀ q r, U = q * Y1 + r → (4294967296 ≤ q ∨ r * 4294967296 + V < q * Y0) → G1 ≤ q - 1 ∧ 1 ≤ q ∧ U = (q - 1) * Y1 + (r + Y1) from fun q r e hc => by have := (unhide HK1).down q r e hc; rw [← unhide HG1] at this; exact this)
    have HWD := hide (show ∀ q r, U = q * Y1 + r → G1 ≤ q → q ≤ 4294967296 → 4294967296 ≤ r → q = G1 from fun q r e hq hb hr => ((unhide HK1).wide q r e (by rw [← unhide HG1]; exact hq) hb hr).trans (unhide HG1).symm)
    have HST := hide (show ∀ q r, U = q * Y1 + r → G1 ≤ q → q * Y0 ≤ r * 4294967296 + V → q = G1 from fun q r e hq hn => ((unhide HK1).stop q r e (by rw [← unhide HG1]; exact hq) hn).trans (unhide HG1).symm)
    clear c1 c2 c3 d1 d2 d3' f1 f2 f3 f4 HX HQ0 HK0 HK1
    go_wp2_with fail
    go_loop [15, 16] (fun a b => ∃ q r : Nat, a = .int .u64 (q : Int) ∧ b = .int .u64 (r : Int) ∧ Hid (U = q * Y1 + r) ∧ Hid (G1 ≤ q) ∧ q ≤ 4294967297 ∧ r < 4294967296) (fun a _ => (intOf a).toNat)
    case atStart => exact ⟨q1, r1, rfl, rfl, hide (unhide HQ1).1, hide (unhide HQ1).2, hl1, hr1⟩
    case round =>
      obtain ⟨q, r, rfl, rfl, HU, HQ, hq, hr⟩ := hrel
      have hstep : (4294967296 ≤ q ∨ r * 4294967296 + V < q * Y0) → ∃ qd rd : Nat, q = qd + 1 ∧ rd = r + Y1 ∧ U = qd * Y1 + rd ∧ G1 ≤ qd ∧ qd ≤ 4294967296 := fun hc => by
        have hd := unhide HDN q r (unhide HU) hc
        exact ⟨q - 1, r + Y1, by omega, rfl, hd.2.2, hd.1, by omega⟩
      by_cases c1 : 4294967296 ≤ q
      · obtain ⟨qd, rd, e1, e2, e3, e4, e5⟩ := hstep (.inl c1)
        have k1 : (4294967296 : Int) ≤ (q : Int) := by omega
        have s1 : IntKind.u64.wrap ((q : Int) - 1) = (qd : Int) := by rw [IntKind.wrap_u64]; omega
        have s1' : (q : Int) - 1 = (qd : Int) := by omega
        have s2 : IntKind.u64.wrap ((r : Int) + (Y1 : Int)) = (rd : Int) := by rw [IntKind.wrap_u64]; omega
        have s2' : (r : Int) + (Y1 : Int) = (rd : Int) := by omega
        have E3 := hide e3
        have E4 := hide e4
        have E1 := hide e1
        clear hstep e1 e2 e3 e4 HU HQ
        by_cases c2 : 4294967296 ≤ rd
        · have k2 : (4294967296 : Int) ≤ (rd : Int) := by omega
          have HF := hide (unhide HWD qd rd (unhide E3) (unhide E4) e5 c2)
          clear c1 c2
          go_wp2_with fail
          go_meet
          exact ⟨by rw [← unhide HF], ⟨_, rfl⟩, rfl⟩
        · have k2 : ¬ (4294967296 : Int) ≤ (rd : Int) := by omega
          clear c1
          go_wp2
          exact ⟨⟨qd, rd, rfl, rfl, E3, E4, by omega, by omega⟩, by have := unhide E1; simp [intOf]; omega⟩
      · have k1 : ¬ (4294967296 : Int) ≤ (q : Int) := by omega
        obtain ⟨Mq, hMq⟩ : ∃ M, M = q * Y0 := ⟨_, rfl⟩
        have hMl : Mq ≤ 4294967295 * 4294967295 := by rw [hMq]; exact Nat.mul_le_mul (by omega) (by have := hY0; omega)
        have m1 : IntKind.u64.wrap ((q : Int) * (Y0 : Int)) = (Mq : Int) := by rw [IntKind.wrap_u64, show (q : Int) * (Y0 : Int) = (Mq : Int) by rw [hMq]; simp]; omega
        obtain ⟨E, hE⟩ : ∃ E, E = 4294967296 * r := ⟨_, rfl⟩
        have m2 : IntKind.u64.wrap (4294967296 * (r : Int)) = (E : Int) := by rw [IntKind.wrap_u64]; omega
        obtain ⟨EV, hEV⟩ : ∃ EV, EV = E + V := ⟨_, rfl⟩
        have m3 : IntKind.u64.wrap ((E : Int) + (V : Int)) = (EV : Int) := by rw [IntKind.wrap_u64]; omega
        have m4 : IntKind.u64.wrap (EV : Int) = (EV : Int) := by rw [IntKind.wrap_u64]; omega
        by_cases c2 : r * 4294967296 + V < q * Y0
        · obtain ⟨qd, rd, e1, e2, e3, e4, e5⟩ := hstep (.inr c2)
          have g1 : (EV : Int) < (Mq : Int) := by omega
          have s1 : IntKind.u64.wrap ((q : Int) - 1) = (qd : Int) := by rw [IntKind.wrap_u64]; omega
          have s1' : (q : Int) - 1 = (qd : Int) := by omega
          have s2 : IntKind.u64.wrap ((r : Int) + (Y1 : Int)) = (rd : Int) := by rw [IntKind.wrap_u64]; omega
          have s2' : (r : Int) + (Y1 : Int) = (rd : Int) := by omega
          have E3 := hide e3
          have E4 := hide e4
          have E1 := hide e1
          clear hstep e1 e2 e3 e4 HU HQ c2 hE hEV hMq
          by_cases c3 : 4294967296 ≤ rd
          · have k2 : (4294967296 : Int) ≤ (rd : Int) := by omega
            have HF := hide (unhide HWD qd rd (unhide E3) (unhide E4) e5 c3)
            clear c1 c3
            go_wp2_with fail
            go_meet
            exact ⟨by rw [← unhide HF], ⟨_, rfl⟩, rfl⟩
          · have k2 : ¬ (4294967296 : Int) ≤ (rd : Int) := by omega
            clear c1
            go_wp2
            exact ⟨⟨qd, rd, rfl, rfl, E3, E4, by omega, by omega⟩, by have := unhide E1; simp [intOf]; omega⟩
        · have KD := hide (show decide ((4294967296 : Int) ≤ (q : Int)) = false from decide_eq_false k1)
          have GD := hide (show decide ((EV : Int) < (Mq : Int)) = false from decide_eq_false (by omega))
          have W4 := hide m4
          have m3' : (E : Int) + (V : Int) = (EV : Int) := by omega
          have HF := hide (unhide HST q r (unhide HU) (unhide HQ) (by omega))
          have g1 : (Mq : Int) ≤ (EV : Int) := by omega
          have k1d : (q : Int) < 4294967296 := by omega
          clear hstep HU HQ c1 c2 hE hEV hMq k1 hMl hq hr m4
          go_upto_if 78 with fail
          simp only [unhide W4, unhide KD, unhide GD, Bool.or_false]
          clear m1 m2 m3 m3' g1 k1d KD GD W4
          go_wp2_with fail
          go_meet
          exact ⟨by rw [← unhide HF], ⟨_, rfl⟩, rfl⟩
  case rest =>
    obtain ⟨rfl, ⟨x, rfl⟩, rfl⟩ := hcut
    clear HQ1 HK1 HG1 hl1 hr1
    go_upto_block 2 with fail
    clear c1 c2 c3 d1 d2 d3' hA
    go_cut [18, 16] (fun a b wx => a = .int .u64 (G0 : Int) ∧ (∃ x : Int, b = .int .u64 x) ∧ wx = wc)
    case first =>
      have HDN := hide (show ∀ q r, Z = q * Y1 + r → (4294967296 ≤ q ∨ r * 4294967296 + W < q * Y0) → G0 ≤ q - 1 ∧ 1 ≤ q ∧ Z = (q - 1) * Y1 + (r + Y1) from fun q r e hc => by have := (unhide HK0).down q r e hc; rw [← unhide HG0] at this; exact this)
      have HWD := hide (show ∀ q r, Z = q * Y1 + r → G0 ≤ q → q ≤ 4294967296 → 4294967296 ≤ r → q = G0 from fun q r e hq hb hr => ((unhide HK0).wide q r e (by rw [← unhide HG0]; exact hq) hb hr).trans (unhide HG0).symm)
      have HST := hide (show ∀ q r, Z = q * Y1 + r → G0 ≤ q → q * Y0 ≤ r * 4294967296 + W → q = G0 from fun q r e hq hn => ((unhide HK0).stop q r e (by rw [← unhide HG0]; exact hq) hn).trans (unhide HG0).symm)
      clear f1 f2 f3 f4 HX HK0
      go_wp2_with fail
      go_loop [18, 16] (fun a b => ∃ q r : Nat, a = .int .u64 (q : Int) ∧ b = .int .u64 (r : Int) ∧ Hid (Z = q * Y1 + r) ∧ Hid (G0 ≤ q) ∧ q ≤ 4294967297 ∧ r < 4294967296) (fun a _ => (intOf a).toNat)
      case atStart => exact ⟨q0, r0, rfl, rfl, hide (unhide HQ0).1, hide (unhide HQ0).2, hl0, hr0⟩
      case round =>
        obtain ⟨q, r, rfl, rfl, HU, HQ, hq, hr⟩ := hrel
        have hstep : (4294967296 ≤ q ∨ r * 4294967296 + W < q * Y0) → ∃ qd rd : Nat, q = qd + 1 ∧ rd = r + Y1 ∧ Z = qd * Y1 + rd ∧ G0 ≤ qd ∧ qd ≤ 4294967296 := fun hc => by
          have hd := unhide HDN q r (unhide HU) hc
          exact ⟨q - 1, r + Y1, by omega, rfl, hd.2.2, hd.1, by omega⟩
        by_cases c1 : 4294967296 ≤ q
        · obtain ⟨qd, rd, e1, e2, e3, e4, e5⟩ := hstep (.inl c1)
          have k1 : (4294967296 : Int) ≤ (q : Int) := by omega
          have s1 : IntKind.u64.wrap ((q : Int) - 1) = (qd : Int) := by rw [IntKind.wrap_u64]; omega
          have s1' : (q : Int) - 1 = (qd : Int) := by omega
          have s2 : IntKind.u64.wrap ((r : Int) + (Y1 : Int)) = (rd : Int) := by rw [IntKind.wrap_u64]; omega
          have s2' : (r : Int) + (Y1 : Int) = (rd : Int) := by omega
          have E3 := hide e3
          have E4 := hide e4
          have E1 := hide e1
          clear hstep e1 e2 e3 e4 HU HQ
          by_cases c2 : 4294967296 ≤ rd
          · have k2 : (4294967296 : Int) ≤ (rd : Int) := by omega
            have HF := hide (unhide HWD qd rd (unhide E3) (unhide E4) e5 c2)
            clear c1 c2
            go_wp2_with fail
            go_meet
            exact ⟨by rw [← unhide HF], ⟨_, rfl⟩, rfl⟩
          · have k2 : ¬ (4294967296 : Int) ≤ (rd : Int) := by omega
            clear c1
            go_wp2
            exact ⟨⟨qd, rd, rfl, rfl, E3, E4, by omega, by omega⟩, by have := unhide E1; simp [intOf]; omega⟩
        · have k1 : ¬ (4294967296 : Int) ≤ (q : Int) := by omega
          obtain ⟨Mq, hMq⟩ : ∃ M, M = q * Y0 := ⟨_, rfl⟩
          have hMl : Mq ≤ 4294967295 * 4294967295 := by rw [hMq]; exact Nat.mul_le_mul (by omega) (by have := hY0; omega)
          have m1 : IntKind.u64.wrap ((q : Int) * (Y0 : Int)) = (Mq : Int) := by rw [IntKind.wrap_u64, show (q : Int) * (Y0 : Int) = (Mq : Int) by rw [hMq]; simp]; omega
          obtain ⟨E, hE⟩ : ∃ E, E = 4294967296 * r := ⟨_, rfl⟩
          have m2 : IntKind.u64.wrap (4294967296 * (r : Int)) = (E : Int) := by rw [IntKind.wrap_u64]; omega
          obtain ⟨EV, hEV⟩ : ∃ EV, EV = E + W := ⟨_, rfl⟩
          have m3 : IntKind.u64.wrap ((E : Int) + (W : Int)) = (EV : Int) := by rw [IntKind.wrap_u64]; omega
          have m4 : IntKind.u64.wrap (EV : Int) = (EV : Int) := by rw [IntKind.wrap_u64]; omega
          by_cases c2 : r * 4294967296 + W < q * Y0
          · obtain ⟨qd, rd, e1, e2, e3, e4, e5⟩ := hstep (.inr c2)
            have g1 : (EV : Int) < (Mq : Int) := by omega
            have s1 : IntKind.u64.wrap ((q : Int) - 1) = (qd : Int) := by rw [IntKind.wrap_u64]; omega
            have s1' : (q : Int) - 1 = (qd : Int) := by omega
            have s2 : IntKind.u64.wrap ((r : Int) + (Y1 : Int)) = (rd : Int) := by rw [IntKind.wrap_u64]; omega
            have s2' : (r : Int) + (Y1 : Int) = (rd : Int) := by omega
            have E3 := hide e3
            have E4 := hide e4
            have E1 := hide e1
            clear hstep e1 e2 e3 e4 HU HQ c2 hE hEV hMq
            by_cases c3 : 4294967296 ≤ rd
            · have k2 : (4294967296 : Int) ≤ (rd : Int) := by omega
              have HF := hide (unhide HWD qd rd (unhide E3) (unhide E4) e5 c3)
              clear c1 c3
              go_wp2_with fail
              go_meet
              exact ⟨by rw [← unhide HF], ⟨_, rfl⟩, rfl⟩
            · have k2 : ¬ (4294967296 : Int) ≤ (rd : Int) := by omega
              clear c1
              go_wp2
              exact ⟨⟨qd, rd, rfl, rfl, E3, E4, by omega, by omega⟩, by have := unhide E1; simp [intOf]; omega⟩
          · have KD := hide (show decide ((4294967296 : Int) ≤ (q : Int)) = false from decide_eq_false k1)
            have GD := hide (show decide ((EV : Int) < (Mq : Int)) = false from decide_eq_false (by omega))
            have W4 := hide m4
            have m3' : (E : Int) + (W : Int) = (EV : Int) := by omega
            have HF := hide (unhide HST q r (unhide HU) (unhide HQ) (by omega))
            have g1 : (Mq : Int) ≤ (EV : Int) := by omega
            have k1d : (q : Int) < 4294967296 := by omega
            clear hstep HU HQ c1 c2 hE hEV hMq k1 hMl hq hr m4
            go_upto_if 113 with fail
            simp only [unhide W4, unhide KD, unhide GD, Bool.or_false]
            clear m1 m2 m3 m3' g1 k1d KD GD W4
            go_wp2_with fail
            go_meet
            exact ⟨by rw [← unhide HF], ⟨_, rfl⟩, rfl⟩
    case rest =>
      obtain ⟨rfl, ⟨x2, rfl⟩, rfl⟩ := hcut
      clear HQ0 HK0 HG0 hl0 hr0
      obtain ⟨J1, hJ1⟩ : ∃ J, J = G1 * 4294967296 := ⟨_, rfl⟩
      have x1 : IntKind.u64.wrap ((G1 : Int) * 4294967296) = (J1 : Int) := by rw [IntKind.wrap_u64]; omega
      have x3 : IntKind.u64.wrap ((J1 : Int) + (G0 : Int)) = ((G1 * 4294967296 + G0 : Nat) : Int) := by rw [IntKind.wrap_u64]; omega
      clear HX hJ1
      generalize hJ : G1 * 4294967296 + G0 = J at *
      have HJ := hide hJ
      clear hJ
      go_wp2
      go_ret2
      exact ⟨by first | rfl | (simp; done) | (have := unhide HJ; simp; omega), Below.refl _ _⟩
end Go.Proofs.YtnpdjddebeipiaaGreatDoor
