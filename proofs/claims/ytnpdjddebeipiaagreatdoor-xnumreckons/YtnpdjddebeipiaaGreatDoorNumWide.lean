/- Sums, products and quotients of 128 bits: xnum's addWide, product and quotient. -/
import Derived.Test.YtnpdjddebeipiaaGreatDoorNumSmall
import Derived.Laws.Externs
import Derived.ScopeJumps
import Derived.WalkMore
namespace Go.Proofs.YtnpdjddebeipiaaGreatDoor
open Go.RowKit
theorem add64 (x y c : Nat) (hc : c ≤ 1) (w : World) :
    (callFunc 48 #[.int .u64 x, .int .u64 y, .int .u64 c]).run Tryz.prog w =
      .ok (.value (.tuple #[.int .u64 (((x + y + c) % 18446744073709551616 : Nat) : Int), .int .u64 (((x + y + c) / 18446744073709551616 : Nat) : Int)])) w := by
  rw [run_callFunc_extern Tryz.func48 (by kernel_rfl) (by kernel_rfl) (by kernel_rfl) (e := add64Entry) (by kernel_rfl), run_add64 x y c (by omega) (by omega) (by omega) (by omega)]
  simp only [Result.andThen]
  congr 5 <;> omega
/-- A number of 128 bits, in two. -/
abbrev wideV (n : Nat) : Value := .agg #[.int .u64 ((n : Int) / 18446744073709551616), .int .u64 ((n : Int) % 18446744073709551616)]
set_option maxRecDepth 100000 in
set_option maxHeartbeats 1000000 in
theorem addWide_any (a0 a1 b0 b1 : Nat) (w : World) (ha0 : a0 < 18446744073709551616) (ha1 : a1 < 18446744073709551616) (hb0 : b0 < 18446744073709551616) (hb1 : b1 < 18446744073709551616)
    (hs : a0 * 18446744073709551616 + a1 + (b0 * 18446744073709551616 + b1) < 340282366920938463463374607431768211456) :
    Calls Tryz.prog 42 #[.agg #[.int .u64 (a0 : Int), .int .u64 (a1 : Int)], .agg #[.int .u64 (b0 : Int), .int .u64 (b1 : Int)]] w fun e w' => e = .returned (wideV (a0 * 18446744073709551616 + a1 + (b0 * 18446744073709551616 + b1))) ∧ Below w.heap.size w w' := by
  have h1 : ∀ w, (callFunc 48 #[.int .u64 (a1 : Int), .int .u64 (b1 : Int), .int .u64 0]).run Tryz.prog w = _ := fun w => add64 a1 b1 0 (by omega) w
  have h2 := fun w => add64 a0 b0 ((a1 + b1 + 0) / 18446744073709551616) (by omega) w
  rw [Nat.add_zero] at h1 h2
  have HS := hide (show (a0 + b0 + (a1 + b1) / 18446744073709551616) % 18446744073709551616 = (a0 * 18446744073709551616 + a1 + (b0 * 18446744073709551616 + b1)) / 18446744073709551616 by omega)
  have HL := hide (show (a1 + b1) % 18446744073709551616 = (a0 * 18446744073709551616 + a1 + (b0 * 18446744073709551616 + b1)) % 18446744073709551616 by omega)
  clear hs
  generalize (a1 + b1) % 18446744073709551616 = lo at *
  generalize (a1 + b1) / 18446744073709551616 = cy at *
  generalize (a0 + b0 + cy) % 18446744073709551616 = hi at *
  generalize (a0 + b0 + cy) / 18446744073709551616 = over at *
  go_enter Tryz.func42, Tryz.ntmps42
  go_wp2
  refine bodyPost_ret (v := .agg #[.int .u64 (hi : Int), .int .u64 (lo : Int)]) (by simp [results, Tryz.results42, go_sem]) rfl ⟨by rw [unhide HS, unhide HL]; simp only [Int.natCast_ediv, Int.natCast_emod]; rfl, ?_⟩
  (repeat first | exact Below.refl _ _ | assumption | refine Below.drew ?_ | refine Below.alloc ?_ (by simp <;> omega) _ | refine Below.setCell ?_ (by simp <;> omega) _)
set_option maxHeartbeats 1000000 in
theorem div64_small (lo y : Nat) (w : World) (h1 : lo < 18446744073709551616) (h0 : 0 < y) (h2 : y < 18446744073709551616) :
    Calls Tryz.prog 41 #[.int .u64 0, .int .u64 (lo : Int), .int .u64 (y : Int)] w fun e w' => e = .returned (.tuple #[.int .u64 ((lo / y : Nat) : Int), .int .u64 ((lo % y : Nat) : Int)]) ∧ w' = w.drew := by
  have h0' : ((y : Int) == 0) = false := by simp; omega
  have h0'' : ¬ (y : Int) ≤ 0 := by omega
  go_enter Tryz.func41, Tryz.ntmps41
  go_wp2
  go_region
  go_wp2
  go_ret2
  refine ⟨?_, rfl⟩
  have e1 : IntKind.u64.wrap ((lo : Int) / (y : Int)) = ((lo / y : Nat) : Int) := by
    have hd : lo / y ≤ lo := Nat.div_le_self _ _
    have hc : ((lo / y : Nat) : Int) = (lo : Int) / (y : Int) := Int.natCast_ediv lo y
    rw [IntKind.wrap_u64, ← hc]
    generalize lo / y = q at *
    omega
  have e2 : (lo : Int) % (y : Int) = ((lo % y : Nat) : Int) := (Int.natCast_emod lo y).symm
  rw [← e1, ← e2]
  rfl
set_option maxHeartbeats 1000000 in
theorem quotient_any (a1 y : Nat) (w : World) (ha1 : a1 < 18446744073709551616) (hb0 : 0 < y) (hb1 : y < 18446744073709551616) :
    Calls Tryz.prog 26 #[.agg #[.int .u64 0, .int .u64 (a1 : Int)], .int .u64 (y : Int)] w fun e w' => e = .returned (.agg #[.int .u64 ((a1 / y : Nat) : Int), .int .u64 ((a1 % y : Nat) : Int)]) ∧ w' = ((w.alloc (.cells #[.int .u64 0, .int .u64 (a1 : Int)] 35)).alloc (.cells #[.int .u64 ((a1 / y : Nat) : Int), .int .u64 ((a1 % y : Nat) : Int)] 35)).drew := by
  have HD := hide (fun w => div64_small a1 y w ha1 hb0 hb1)
  generalize a1 / y = q at *
  generalize a1 % y = r at *
  go_enter Tryz.func26, Tryz.ntmps26
  go_wp2_with (go_at_call 41; refine (unhide HD _).mono ?_; rintro e w' ⟨rfl, rfl⟩)
  refine bodyPost_ret (v := .agg #[.int .u64 (q : Int), .int .u64 (r : Int)]) (by simp [results, Tryz.results26, go_sem]) rfl ⟨rfl, ?_⟩
  rfl
/-- A variable of 128 bits holds a number, and may be written. -/
structure WideAt (w : World) (k n : Nat) : Prop where
  hi : w.cell? ⟨k, 0, none⟩ = some (.int .u64 ((n : Int) / 18446744073709551616))
  lo : w.cell? ⟨k, 1, none⟩ = some (.int .u64 ((n : Int) % 18446744073709551616))
  o0 : w.frozen? ⟨k, 0, none⟩ = false
  o1 : w.frozen? ⟨k, 1, none⟩ = false
theorem wraps64 (n : Int) (h0 : 0 ≤ n) (h1 : n < 2 ^ 64) : IntKind.u64.wrap n = n := by rw [IntKind.wrap_u64]; omega
theorem WideAt.below {w w' : World} {k n : Nat} (h : WideAt w k n) (hb : Below w.heap.size w w') : WideAt w' k n :=
  ⟨kept_cell hb h.hi, kept_cell hb h.lo, kept_open hb h.hi h.o0, kept_open hb h.lo h.o1⟩
theorem wide_split (n : Nat) : n / 18446744073709551616 * 18446744073709551616 + n % 18446744073709551616 = n := by omega
theorem addWide_is (x y : Nat) (w : World) (h : x + y < 340282366920938463463374607431768211456) :
    Calls Tryz.prog 42 #[wideV x, wideV y] w fun e w' => e = .returned (wideV (x + y)) ∧ Below w.heap.size w w' := by
  have := addWide_any (x / 18446744073709551616) (x % 18446744073709551616) (y / 18446744073709551616) (y % 18446744073709551616) w (by omega) (by omega) (by omega) (by omega) (by rw [wide_split, wide_split]; exact h)
  rw [wide_split, wide_split] at this
  exact this
/-- .. when it is written. -/
def putW (w : World) (k : Nat) (x y : Int) : World := (w.setCell ⟨k, 0, none⟩ (.int .u64 x)).setCell ⟨k, 1, none⟩ (.int .u64 y)
theorem WideAt.put {w : World} {k n : Nat} (h : WideAt w k n) (m : Nat) : WideAt (putW w k ((m : Int) / 18446744073709551616) ((m : Int) % 18446744073709551616)) k m := by
  obtain ⟨h1, h2, h3, h4⟩ := h
  unfold putW
  refine ⟨?_, ?_, ?_, ?_⟩
  all_goals simp [go_sem, *]
theorem WideAt.keep {w : World} {k j n : Nat} (h : WideAt w k n) (hn : k ≠ j) (x y : Int) : WideAt (putW w j x y) k n := by
  obtain ⟨h1, h2, h3, h4⟩ := h
  have hn' : j ≠ k := fun e => hn e.symm
  unfold putW
  refine ⟨?_, ?_, ?_, ?_⟩
  all_goals simp [go_sem, *]
theorem putW_below {w w' : World} {B k : Nat} (h : Below B w w') (hk : B ≤ k) (x y : Int) : Below B w (putW w' k x y) := (h.setCell hk _).setCell hk _
theorem double_lt (a b bb i sh : Nat) (ha : a < 18446744073709551616) (hb : b < 18446744073709551616) (h0 : 1 ≤ bb) (h1 : sh = a * 2 ^ i) (h2 : bb * 2 ^ i ≤ b) : sh + sh < 340282366920938463463374607431768211456 := by
  have h3 : 2 ^ i ≤ bb * 2 ^ i := Nat.le_mul_of_pos_left _ h0
  have h4 : 2 ^ i < 2 ^ 64 := by
    have : (2 : Nat) ^ 64 = 18446744073709551616 := by decide
    omega
  have h5 : i < 64 := (Nat.pow_lt_pow_iff_right (by decide)).1 h4
  have h6 : 2 ^ (i + 1) ≤ 2 ^ 64 := Nat.pow_le_pow_right (by decide) (by omega)
  have h7 : sh + sh = a * 2 ^ (i + 1) := by rw [h1, Nat.pow_succ, ← Nat.mul_assoc]; omega
  rw [h7]
  have h8 : a * 2 ^ (i + 1) ≤ a * 2 ^ 64 := Nat.mul_le_mul_left a h6
  have h9 : a * 2 ^ 64 < 18446744073709551616 * 2 ^ 64 := (Nat.mul_lt_mul_right (by decide)).2 ha
  have h10 : 18446744073709551616 * 2 ^ 64 = 340282366920938463463374607431768211456 := by decide
  omega
theorem half_le (bb b i : Nat) (h : bb * 2 ^ i ≤ b) : bb / 2 * 2 ^ (i + 1) ≤ b := by
  have h1 : bb / 2 * 2 ≤ bb := Nat.div_mul_le_self bb 2
  have h2 : bb / 2 * 2 ^ (i + 1) = bb / 2 * 2 * 2 ^ i := by rw [Nat.pow_succ, Nat.mul_comm (2 ^ i) 2, Nat.mul_assoc]
  rw [h2]
  exact Nat.le_trans (Nat.mul_le_mul_right _ h1) h
set_option maxRecDepth 100000 in
set_option maxHeartbeats 2000000 in
theorem product_any (a b : Nat) (w : World) (ha : a < 18446744073709551616) (hb : b < 18446744073709551616) :
    Calls Tryz.prog 27 #[.int .u64 (a : Int), .int .u64 (b : Int)] w fun e w' => e = .returned (wideV (a * b)) ∧ Below w.heap.size w w' := by
  go_enter Tryz.func27, Tryz.ntmps27
  go_wp2_with fail
  refine wp_scope_jumps 0 (fun a' w' => ∃ (u1 u7 u8 u9 u10 u11 u12 u13 u14 u15 u16 u17 u18 u19 u20 u21 : Value), a' = { tmps := #[.int .u64 (a : Int), u1, undef, undef, .pointer (some ⟨w.heap.size, 0, none⟩), .pointer (some ⟨w.heap.size + 1, 0, none⟩), .pointer (some ⟨w.heap.size + 1 + 1, 0, none⟩), u7, u8, u9, u10, u11, u12, u13, u14, u15, u16, u17, u18, u19, u20, u21, undef], defers := [] } ∧ WideAt w' w.heap.size 0 ∧ WideAt w' (w.heap.size + 1) (a * b) ∧ Below w.heap.size w w') (fun _ _ => 0) rfl ?_ ?_
  · go_wp2_with fail
    go_loopw [1] (fun v wr => ∃ (s sh bb : Nat), v = .int .u64 (bb : Int) ∧ WideAt wr w.heap.size 0 ∧ WideAt wr (w.heap.size + 1) s ∧ WideAt wr (w.heap.size + 1 + 1) sh ∧ s + sh * bb = a * b ∧ (∃ i, sh = a * 2 ^ i ∧ bb * 2 ^ i ≤ b) ∧ bb < 18446744073709551616 ∧ Below w.heap.size w wr) (fun v _ => (intOf v).toNat)
    case atStart =>
      have hB : Below w.heap.size w (((w.alloc (.cells #[.int .u64 0, .int .u64 0] 35)).alloc (.cells #[.int .u64 0, .int .u64 0] 35)).alloc (.cells #[.int .u64 0, .int .u64 (a : Int)] 35)) := by
        (repeat first | exact Below.refl _ _ | assumption | refine Below.drew ?_ | refine Below.alloc ?_ (by simp <;> omega) _ | refine Below.setCell ?_ (by simp <;> omega) _)
      have e0 : ((a : Nat) : Int) / 18446744073709551616 = 0 := by omega
      have e1 : ((a : Nat) : Int) % 18446744073709551616 = a := by omega
      refine ⟨0, a, b, rfl, ⟨?_, ?_, ?_, ?_⟩, ⟨?_, ?_, ?_, ?_⟩, ⟨?_, ?_, ?_, ?_⟩, by omega, ⟨0, by simp, by simp⟩, hb, hB⟩
      all_goals (first | rw [e0] | rw [e1] | skip)
      all_goals simp [go_sem]
    case round =>
      obtain ⟨s, sh, bb, rfl, hR, hS, hH, he, hlt, hbb, hbr⟩ := hrel
      have HR := hide hR
      have HSS := hide hS
      have HH := hide hH
      obtain ⟨s0, s1, s2, s3⟩ := hS
      obtain ⟨g0, g1, g2, g3⟩ := hH
      clear hR
      by_cases h0 : bb = 0
      · subst h0
        have HSS' : WideAt wr (w.heap.size + 1) (a * b) := by
          have := unhide HSS
          rw [Nat.mul_zero, Nat.add_zero] at he
          rw [← he]; exact this
        have HS' := hide HSS'
        clear HSS'
        go_wp2_with fail
        go_step3
        exact ⟨rfl, _, _, _, _, _, _, _, _, _, _, _, _, _, _, _, _, rfl, unhide HR, unhide HS', hbr⟩
      · have h0' : ((bb : Int) == 0) = false := by simp; omega
        have hand : bits .and .u64 (bb : Int) 1 = (bb : Int) % 2 := bits_mask .u64 64 (by decide) wraps64 1 (by decide) (bb : Int) (by omega) (by omega)
        obtain ⟨i, hi1, hi2⟩ := hlt
        have hdbl : sh + sh < 340282366920938463463374607431768211456 := double_lt a b bb i sh ha hb (by omega) hi1 hi2
        have hnext : ∃ j, sh + sh = a * 2 ^ j ∧ bb / 2 * 2 ^ j ≤ b := ⟨i + 1, by rw [Nat.pow_succ, ← Nat.mul_assoc, ← hi1]; omega, half_le bb b i hi2⟩
        have HD := hide (fun w => addWide_is sh sh w hdbl)
        have HN := hide hnext
        clear hdbl hnext hi1 hi2
        by_cases hodd : bb % 2 = 1
        · have hodd' : (bb : Int) % 2 = 1 := by omega
          have hsum : s + sh < 340282366920938463463374607431768211456 := by
            have h1 : a * b < 340282366920938463463374607431768211456 := Nat.lt_of_lt_of_le (Nat.mul_lt_mul'' ha hb) (by decide)
            have h2 : sh ≤ sh * bb := Nat.le_mul_of_pos_right _ (by omega)
            omega
          have HA := hide (fun w => addWide_is s sh w hsum)
          have HE := hide (show s + sh + (sh + sh) * (bb / 2) = a * b by
            rw [← he]
            obtain ⟨q, hq⟩ : ∃ q, bb = 2 * q + 1 := ⟨bb / 2, by omega⟩
            rw [show bb / 2 = q by omega, hq, Nat.mul_add, Nat.mul_one, Nat.add_mul, ← Nat.mul_assoc, Nat.mul_comm sh 2, Nat.mul_assoc]
            omega)
          clear hsum hodd he
          go_wp2_with fail
          refine (unhide HA _).mono ?_
          rintro e w1 ⟨rfl, hb1⟩
          obtain ⟨t0, t1, t2, t3⟩ := (unhide HSS).below hb1
          obtain ⟨k0, k1, k2, k3⟩ := (unhide HH).below hb1
          obtain ⟨r0, r1, r2, r3⟩ := (unhide HR).below hb1
          have hbb1 := Below.then hbr hb1
          have HP := hide (((unhide HSS).below hb1).put (s + sh))
          have HQ := hide (((unhide HH).below hb1).keep (show w.heap.size + 1 + 1 ≠ w.heap.size + 1 by omega) (((s + sh : Nat) : Int) / 18446744073709551616) (((s + sh : Nat) : Int) % 18446744073709551616))
          have HO := hide (((unhide HR).below hb1).keep (show w.heap.size ≠ w.heap.size + 1 by omega) (((s + sh : Nat) : Int) / 18446744073709551616) (((s + sh : Nat) : Int) % 18446744073709551616))
          have hbw := putW_below hbb1 (show w.heap.size ≤ w.heap.size + 1 by omega) (((s + sh : Nat) : Int) / 18446744073709551616) (((s + sh : Nat) : Int) % 18446744073709551616)
          go_wp2_with fail
          refine (unhide HD _).mono ?_
          rintro e w2 ⟨rfl, hb2⟩
          have hb2' : Below (putW w1 (w.heap.size + 1) (((s + sh : Nat) : Int) / 18446744073709551616) (((s + sh : Nat) : Int) % 18446744073709551616)).heap.size (putW w1 (w.heap.size + 1) (((s + sh : Nat) : Int) / 18446744073709551616) (((s + sh : Nat) : Int) % 18446744073709551616)) w2 := hb2
          have HB2 := hide hb2'
          obtain ⟨z0, z1, z2, z3⟩ := (unhide HQ).below hb2'
          clear k0 k1 k2 k3 t0 t1 t2 t3 r0 r1 r2 r3 hb2 hb2'
          go_wp2
          refine ⟨⟨s + sh, sh + sh, bb / 2, by rw [Int.natCast_ediv]; rfl, ?_, ?_, ?_, unhide HE, unhide HN, by omega, ?_⟩, by simp [intOf]; omega⟩
          · exact ((unhide HO).below (unhide HB2)).keep (by omega) _ _
          · exact ((unhide HP).below (unhide HB2)).keep (by omega) _ _
          · exact ((unhide HQ).below (unhide HB2)).put (sh + sh)
          · exact putW_below (Below.then hbw (unhide HB2)) (by omega) _ _
        · have hodd' : (bb : Int) % 2 = 0 := by omega
          have HE := hide (show s + (sh + sh) * (bb / 2) = a * b by
            rw [← he]
            obtain ⟨q, hq⟩ : ∃ q, bb = 2 * q := ⟨bb / 2, by omega⟩
            rw [show bb / 2 = q by omega, hq, Nat.add_mul, ← Nat.mul_assoc, Nat.mul_comm sh 2, Nat.mul_assoc]
            omega)
          clear hodd he
          go_wp2_with fail
          refine (unhide HD _).mono ?_
          rintro e w1 ⟨rfl, hb1⟩
          obtain ⟨k0, k1, k2, k3⟩ := (unhide HH).below hb1
          have hbb1 := Below.then hbr hb1
          have HB1 := hide hb1
          clear hb1
          go_wp2
          refine ⟨⟨s, sh + sh, bb / 2, by rw [Int.natCast_ediv]; rfl, ?_, ?_, ?_, unhide HE, unhide HN, by omega, ?_⟩, by simp [intOf]; omega⟩
          · exact ((unhide HR).below (unhide HB1)).keep (by omega) _ _
          · exact ((unhide HSS).below (unhide HB1)).keep (by omega) _ _
          · exact ((unhide HH).below (unhide HB1)).put (sh + sh)
          · exact putW_below hbb1 (by omega) _ _
  · rintro a' w' ⟨u1, u7, u8, u9, u10, u11, u12, u13, u14, u15, u16, u17, u18, u19, u20, u21, rfl, hR, hS, hb'⟩
    obtain ⟨r0, r1, r2, r3⟩ := hR
    obtain ⟨s0, s1, s2, s3⟩ := hS
    go_wp2
    simp only [Exit.jump]
    refine bodyPost_ret (v := .agg #[.int .u64 ((a : Int) * b / 18446744073709551616), .int .u64 ((a : Int) * b % 18446744073709551616)]) (by simp [results, Tryz.results27, go_sem, *]) rfl ⟨?_, ?_⟩
    · simp [wideV]
    · exact (hb'.setCell (Nat.le_refl _) _).setCell (Nat.le_refl _) _
end Go.Proofs.YtnpdjddebeipiaaGreatDoor
