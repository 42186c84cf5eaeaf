/- Several texts, laid as one. -/
import Derived.Laws.ComplexArith
import Derived.Test.YthkkfldmoflfaaaGreatDoorGaa
/- Whole numbers below 2^53 are written, compared, added, subtracted and read back exactly as float64: plain lemmas on the floats, of no program. -/
namespace Go.Proofs.YthkkfldmoflfaaaGreatDoor
namespace FloatInt
open Ieee

/-- A datum that stands for the integer n: '|n| * 2 ^ k * 2 ^ (-k)' with n's sign. -/
def Stands (d : Datum) (n : Int) : Prop := ∃ k : Nat, d = .number (decide (n < 0)) (n.natAbs * 2 ^ k) (-(k : Int))

theorem signed_stands (n : Int) (k up : Nat) : Ieee.signed (decide (n < 0)) (n.natAbs * 2 ^ k) up = n * 2 ^ (k + up) := by
  unfold Ieee.signed
  rw [Nat.shiftLeft_eq, Nat.mul_assoc, ← Nat.pow_add]
  by_cases h : n < 0
  · rw [if_pos (decide_eq_true h)]
    have e : n = -(n.natAbs : Int) := by omega
    push_cast
    rw [← Int.neg_mul, ← e]
  · rw [if_neg (by simp [h])]
    have e : (n.natAbs : Int) = n := by omega
    push_cast
    rw [e]

theorem compare_mul (a b : Int) (c : Int) (hc : 0 < c) : compare (a * c) (b * c) = compare a b := by
  rcases Int.lt_trichotomy a b with h | h | h
  · have h' : a * c < b * c := Int.mul_lt_mul_of_pos_right h hc
    simp [compare, compareOfLessAndEq, h, h']
  · subst h; simp
  · have h' : b * c < a * c := Int.mul_lt_mul_of_pos_right h hc
    simp [compare, compareOfLessAndEq, Int.lt_asymm h, Int.lt_asymm h', Int.ne_of_gt h, Int.ne_of_gt h']

theorem order_stands {d e : Datum} {a b : Int} (ha : Stands d a) (hb : Stands e b) : d.order e = some (compare a b) := by
  obtain ⟨k, rfl⟩ := ha
  obtain ⟨l, rfl⟩ := hb
  simp only [Datum.order, signed_stands]
  have e1 : k + (-(k : Int) - min (-(k : Int)) (-(l : Int))).toNat = max k l := by omega
  have e2 : l + (-(l : Int) - min (-(k : Int)) (-(l : Int))).toNat = max k l := by omega
  rw [e1, e2, compare_mul _ _ _ (Int.pow_pos (by decide))]

theorem cut_zero (s : Bool) (n : Nat) : Toward.even.cut s n 0 = n := by
  simp [Toward.cut, Nat.mod_one]

theorem cut_scaled (way : Toward) (s : Bool) (n d : Nat) (hn : n ≠ 0) : way.cut s (n * 2 ^ d) d = n := by
  have h1 : d ≤ (n * 2 ^ d).log2 + 2 := by
    have : d ≤ (n * 2 ^ d).log2 := by
      rw [Nat.le_log2 (Nat.mul_ne_zero hn (Nat.ne_of_gt (Nat.two_pow_pos _)))]
      exact Nat.le_mul_of_pos_left _ (Nat.pos_of_ne_zero hn)
    omega
  have e : (1 <<< min d ((n * 2 ^ d).log2 + 2)) = 2 ^ d := by rw [Nat.min_eq_left h1, Nat.shiftLeft_eq, Nat.one_mul]
  have p : 0 < 2 ^ d := Nat.two_pow_pos _
  unfold Toward.cut
  simp only [e, Nat.mul_div_cancel _ p, Nat.mul_mod_left]
  cases way <;> simp

theorem read_word (s : Bool) (rung : Nat) (h : rung < double.signWeight) : double.read (double.word s rung) =
    (if rung < double.binade then .number s rung double.leastPlace
     else if rung < double.infRung then .number s (double.binade + rung % double.binade) (double.leastPlace + (rung / double.binade - 1 : Nat))
     else if rung = double.infRung then .infinity s
     else .nan s (rung - double.infRung)) := by
  have hp : 0 < double.signWeight := Nat.two_pow_pos _
  unfold Format.read Format.word
  cases s
  · have e1 : rung / double.signWeight = 0 := Nat.div_eq_of_lt h
    have e2 : rung % double.signWeight = rung := Nat.mod_eq_of_lt h
    simp [e1, e2]
  · have e1 : (double.signWeight + rung) / double.signWeight = 1 := by
      rw [Nat.add_div_left _ hp, Nat.div_eq_of_lt h]
    have e2 : (double.signWeight + rung) % double.signWeight = rung := by
      rw [Nat.add_mod_left, Nat.mod_eq_of_lt h]
    simp [e1, e2]

theorem log2_scaled (m k : Nat) (h0 : m ≠ 0) : (m * 2 ^ k).log2 = m.log2 + k := by
  have n0 : m * 2 ^ k ≠ 0 := Nat.mul_ne_zero h0 (Nat.ne_of_gt (Nat.two_pow_pos _))
  refine (Nat.log2_eq_iff n0).2 ⟨?_, ?_⟩
  · rw [Nat.pow_add]; exact Nat.mul_le_mul_right _ (Nat.log2_self_le h0)
  · rw [Nat.add_right_comm, Nat.pow_add]; exact Nat.mul_lt_mul_of_pos_right Nat.lt_log2_self (Nat.two_pow_pos _)

/-- A number below 2^53 is written exactly, however it is scaled. -/
theorem nearest_scaled (s : Bool) (m k : Nat) (h0 : m ≠ 0) (h : m < 2 ^ 53) :
    double.nearest s (m * 2 ^ k) (-(k : Int)) = double.word s ((m.log2 + 1022) * 2 ^ 52 + m * 2 ^ (52 - m.log2)) := by
  have n0 : m * 2 ^ k ≠ 0 := Nat.mul_ne_zero h0 (Nat.ne_of_gt (Nat.two_pow_pos _))
  have hl : m.log2 ≤ 52 := by have := (Nat.log2_lt h0).2 h; omega
  have hhi : m < 2 ^ (m.log2 + 1) := Nat.lt_log2_self
  unfold Format.nearest
  rw [if_neg n0]
  have e1 : max (-(k : Int) + ((m * 2 ^ k).log2 : Nat) - (double.fractionBits : Nat)) double.leastPlace = (m.log2 : Int) - 52 := by
    have a : ((double.fractionBits : Nat) : Int) = 52 := rfl
    have b : double.leastPlace = -1074 := by decide
    rw [a, b, log2_scaled m k h0]; omega
  have b : double.leastPlace = -1074 := by decide
  have bi : double.binade = 2 ^ 52 := rfl
  have ir : double.infRung = 2047 * 2 ^ 52 := rfl
  simp only [e1]
  rw [b]
  generalize hL : m.log2 = l at *
  have e4 : ((l : Int) - 52 - -1074).toNat = l + 1022 := by omega
  rw [e4]
  have k2 : m * 2 ^ (52 - l) < 2 ^ 53 := by
    calc m * 2 ^ (52 - l) < 2 ^ (l + 1) * 2 ^ (52 - l) := Nat.mul_lt_mul_of_pos_right hhi (Nat.two_pow_pos _)
      _ = 2 ^ 53 := by rw [← Nat.pow_add]; congr 1; omega
  have e5 : Toward.even.cut s ((m * 2 ^ k) <<< (-(k : Int) - ((l : Int) - 52)).toNat) (((l : Int) - 52) - -(k : Int)).toNat = m * 2 ^ (52 - l) := by
    rw [Nat.shiftLeft_eq]
    by_cases hk : k ≤ 52 - l
    · have a1 : (-(k : Int) - ((l : Int) - 52)).toNat = 52 - l - k := by omega
      have a2 : (((l : Int) - 52) - -(k : Int)).toNat = 0 := by omega
      rw [a1, a2, cut_zero, Nat.mul_assoc, ← Nat.pow_add]; congr 2; omega
    · have a1 : (-(k : Int) - ((l : Int) - 52)).toNat = 0 := by omega
      have a2 : (((l : Int) - 52) - -(k : Int)).toNat = k - (52 - l) := by omega
      have a3 : m * 2 ^ k * 2 ^ 0 = m * 2 ^ (52 - l) * 2 ^ (k - (52 - l)) := by
        rw [Nat.pow_zero, Nat.mul_one, Nat.mul_assoc, ← Nat.pow_add]; congr 2; omega
      rw [a1, a2, a3]
      exact cut_scaled _ _ _ _ (Nat.mul_ne_zero h0 (Nat.ne_of_gt (Nat.two_pow_pos _)))
  rw [e5, bi, ir, Nat.min_eq_left (by omega)]

theorem stands_nearest (n : Int) (h : n.natAbs < 2 ^ 53) : Stands (double.read (FloatKind.f64.nearest n)) n := by
  unfold FloatKind.nearest FloatKind.encode Format.write
  show Stands (double.read (double.nearest (decide (n < 0)) n.natAbs 0)) n
  by_cases h0 : n.natAbs = 0
  · have hn : n = 0 := by omega
    subst hn
    unfold Format.nearest
    rw [if_pos h0, read_word _ _ (Nat.two_pow_pos _), if_pos (show 0 < double.binade from Nat.two_pow_pos _)]
    have z : ∀ k : Nat, Datum.number (decide ((0 : Int) < 0)) 0 (-(k : Int)) = .number (decide ((0 : Int) < 0)) (Int.natAbs 0 * 2 ^ k) (-(k : Int)) := fun k => by
      rw [show Int.natAbs 0 = 0 from rfl, Nat.zero_mul]
    have b : double.leastPlace = -((1074 : Nat) : Int) := by decide
    rw [b]
    generalize 1074 = k
    exact ⟨k, z k⟩
  · have e := nearest_scaled (decide (n < 0)) n.natAbs 0 h0 h
    rw [Nat.pow_zero, Nat.mul_one, show -((0 : Nat) : Int) = 0 from rfl] at e
    rw [e]
    have hl : n.natAbs.log2 ≤ 52 := by have := (Nat.log2_lt h0).2 h; omega
    have hlo := Nat.log2_self_le h0
    have hhi : n.natAbs < 2 ^ (n.natAbs.log2 + 1) := Nat.lt_log2_self
    generalize n.natAbs.log2 = l at *
    have b : double.leastPlace = -1074 := by decide
    have bi : double.binade = 2 ^ 52 := rfl
    have ir : double.infRung = 2047 * 2 ^ 52 := rfl
    have sw : double.signWeight = 2 ^ 63 := rfl
    have k1 : 2 ^ 52 ≤ n.natAbs * 2 ^ (52 - l) := by
      calc 2 ^ 52 = 2 ^ l * 2 ^ (52 - l) := by rw [← Nat.pow_add]; congr 1; omega
        _ ≤ n.natAbs * 2 ^ (52 - l) := Nat.mul_le_mul_right _ hlo
    have k2 : n.natAbs * 2 ^ (52 - l) < 2 ^ 53 := by
      calc n.natAbs * 2 ^ (52 - l) < 2 ^ (l + 1) * 2 ^ (52 - l) := Nat.mul_lt_mul_of_pos_right hhi (Nat.two_pow_pos _)
        _ = 2 ^ 53 := by rw [← Nat.pow_add]; congr 1; omega
    refine ⟨52 - l, ?_⟩
    generalize n.natAbs * 2 ^ (52 - l) = K at *
    rw [read_word _ _ (by rw [sw]; omega), bi, ir, if_neg (by omega), if_pos (by omega)]
    congr 1
    · omega
    · rw [b]; omega

theorem order_nearest (a b : Int) (ha : a.natAbs < 2 ^ 53) (hb : b.natAbs < 2 ^ 53) :
    FloatKind.f64.format.order (floatOfInt .f64 a) (floatOfInt .f64 b) = some (compare a b) :=
  order_stands (stands_nearest a ha) (stands_nearest b hb)

theorem le_nearest (a b : Int) (ha : a.natAbs < 2 ^ 53) (hb : b.natAbs < 2 ^ 53) :
    (FloatKind.f64.format.order (floatOfInt .f64 a) (floatOfInt .f64 b) == some .lt || FloatKind.f64.format.order (floatOfInt .f64 a) (floatOfInt .f64 b) == some .eq) = decide (a ≤ b) := by
  rw [order_nearest a b ha hb]
  rcases Int.lt_trichotomy a b with h | h | h
  · simp [compare, compareOfLessAndEq, h, Int.le_of_lt h]
  · subst h; simp
  · simp [compare, compareOfLessAndEq, Int.lt_asymm h, Int.ne_of_gt h, Int.not_le.2 h]

end FloatInt
end Go.Proofs.YthkkfldmoflfaaaGreatDoor
/- Which characters may be, are blanks, lie in a range: the contracts of xchar's and the reference's small tests. -/
namespace Go.Proofs.YthkkfldmoflfaaaGreatDoor
open Go.RowKit
def wB (r : Int) (fa fb : Nat) : Bool :=
  (FloatKind.f64.format.order fa (floatOfInt FloatKind.f64 r) == some Ordering.lt || FloatKind.f64.format.order fa (floatOfInt FloatKind.f64 r) == some Ordering.eq) &&
  (FloatKind.f64.format.order (floatOfInt FloatKind.f64 r) fb == some Ordering.lt || FloatKind.f64.format.order (floatOfInt FloatKind.f64 r) fb == some Ordering.eq)
set_option maxHeartbeats 400000 in
theorem within_any (r : Int) (fa fb : Nat) (w : World) :
    Calls Tryz.prog 68 #[.int .i32 r, .complex .f64 fa fb] w fun e w' => e = .returned (.bool (wB r fa fb)) ∧ w' = w := by
  go_enter Tryz.func68, Tryz.ntmps68
  go_wp2
  all_goals
    go_ret
    exact ⟨by simp [wB, *], rfl⟩
def charB (r : Int) : Bool := r == 9 || r == 10 || r == 13 || wB r 4629700416936869888 4677832500515438592 || wB r 4678114112931102720 4679239600521084928 || wB r 4679240012837945344 4697535882029170688
set_option maxHeartbeats 400000 in
theorem isChar_any (r : Int) (w : World) :
    Calls Tryz.prog 38 #[.int .i32 r] w fun e w' => e = .returned (.bool (charB r)) ∧ w' = w := by
  go_enter Tryz.func38, Tryz.ntmps38
  go_wp2_with (go_at_call 68; refine (within_any _ _ _ _).mono ?_; rintro e w' ⟨rfl, rfl⟩)
  all_goals
    go_ret
    exact ⟨by simp [charB, *], rfl⟩
def charR (r : Int) : Bool := r == 9 || r == 10 || r == 13 || (decide (32 ≤ r) && decide (r ≤ 55295)) || (decide (57344 ≤ r) && decide (r ≤ 65533)) || (decide (65536 ≤ r) && decide (r ≤ 1114111))
def blankB (r : Int) : Bool := r == 9 || r == 10 || r == 13 || r == 32
theorem isBlank_any (r : Int) (w : World) :
    Calls Tryz.prog 40 #[.int .i32 r] w fun e w' => e = .returned (.bool (blankB r)) ∧ w' = w := by
  go_enter Tryz.func40, Tryz.ntmps40
  go_wp2
  all_goals
    go_ret
    refine ⟨ret_bool ?_, rfl⟩
    rw [Bool.eq_iff_iff]
    simp [blankB]
    try omega
end Go.Proofs.YthkkfldmoflfaaaGreatDoor
/- Which characters begin names and go on in them: xchar's Begins and GoesOn. -/
namespace Go.Proofs.YthkkfldmoflfaaaGreatDoor
open Go.RowKit
section
variable {P : Program} (w : World) (a : Addr) (m : Mode)
theorem run_store_complex (k : FloatKind) (x y : Nat) : (store a (.complex k x y) m).run P w = stored P w a (.complex k x y) m := run_store P w a _ m rfl
end
attribute [local go_sem] run_store_complex
abbrev c128 (x y : Nat) : Value := .complex .f64 x y
abbrev beginTab : Array Value := #[c128 4634274385308418048 4636033603912859648, c128 4636385447633747968 4636385447633747968, c128 4636526185122103296 4638285403726544896, c128 4640959416005296128 4641733472191250432, c128 4641803840935428096 4642859372098093056, c128 4642929740842270720 4649957819167014912, c128 4650951777678524416 4651066126887813120, c128 4651083719073857536 4665728114444206080, c128 4665735811025600512 4665736360781414400, c128 4665790786606989312 4665948566525575168, c128 4667418063816097792 4667971667920683008, c128 4667981563525332992 4677832500515438592, c128 4678993722233323520 4679162909585047552, c128 4679167445070512128 4679239600521084928, c128 4679240012837945344 4696691452804071424]
def beginB (r : Int) : Bool := wB r 4634274385308418048 4636033603912859648 || wB r 4636385447633747968 4636385447633747968 || wB r 4636526185122103296 4638285403726544896 || wB r 4640959416005296128 4641733472191250432 || wB r 4641803840935428096 4642859372098093056 || wB r 4642929740842270720 4649957819167014912 || wB r 4650951777678524416 4651066126887813120 || wB r 4651083719073857536 4665728114444206080 || wB r 4665735811025600512 4665736360781414400 || wB r 4665790786606989312 4665948566525575168 || wB r 4667418063816097792 4667971667920683008 || wB r 4667981563525332992 4677832500515438592 || wB r 4678993722233323520 4679162909585047552 || wB r 4679167445070512128 4679239600521084928 || wB r 4679240012837945344 4696691452804071424
set_option maxHeartbeats 4000000 in
set_option maxRecDepth 100000 in
theorem begins_any (r : Int) (w : World) :
    Calls Tryz.prog 104 #[.int .i32 r] w fun e w' => e = .returned (.bool (beginB r)) ∧ Below w.heap.size w w' := by
  have i0 : ∀ w, (Instr.index 153 (.agg beginTab) (.int .i64 0)).run Tryz.prog w = .ok (.complex .f64 4634274385308418048 4636033603912859648) w := fun _ => by kernel_rfl
  have i1 : ∀ w, (Instr.index 153 (.agg beginTab) (.int .i64 1)).run Tryz.prog w = .ok (.complex .f64 4636385447633747968 4636385447633747968) w := fun _ => by kernel_rfl
  have i2 : ∀ w, (Instr.index 153 (.agg beginTab) (.int .i64 2)).run Tryz.prog w = .ok (.complex .f64 4636526185122103296 4638285403726544896) w := fun _ => by kernel_rfl
  have i3 : ∀ w, (Instr.index 153 (.agg beginTab) (.int .i64 3)).run Tryz.prog w = .ok (.complex .f64 4640959416005296128 4641733472191250432) w := fun _ => by kernel_rfl
  have i4 : ∀ w, (Instr.index 153 (.agg beginTab) (.int .i64 4)).run Tryz.prog w = .ok (.complex .f64 4641803840935428096 4642859372098093056) w := fun _ => by kernel_rfl
  have i5 : ∀ w, (Instr.index 153 (.agg beginTab) (.int .i64 5)).run Tryz.prog w = .ok (.complex .f64 4642929740842270720 4649957819167014912) w := fun _ => by kernel_rfl
  have i6 : ∀ w, (Instr.index 153 (.agg beginTab) (.int .i64 6)).run Tryz.prog w = .ok (.complex .f64 4650951777678524416 4651066126887813120) w := fun _ => by kernel_rfl
  have i7 : ∀ w, (Instr.index 153 (.agg beginTab) (.int .i64 7)).run Tryz.prog w = .ok (.complex .f64 4651083719073857536 4665728114444206080) w := fun _ => by kernel_rfl
  have i8 : ∀ w, (Instr.index 153 (.agg beginTab) (.int .i64 8)).run Tryz.prog w = .ok (.complex .f64 4665735811025600512 4665736360781414400) w := fun _ => by kernel_rfl
  have i9 : ∀ w, (Instr.index 153 (.agg beginTab) (.int .i64 9)).run Tryz.prog w = .ok (.complex .f64 4665790786606989312 4665948566525575168) w := fun _ => by kernel_rfl
  have i10 : ∀ w, (Instr.index 153 (.agg beginTab) (.int .i64 10)).run Tryz.prog w = .ok (.complex .f64 4667418063816097792 4667971667920683008) w := fun _ => by kernel_rfl
  have i11 : ∀ w, (Instr.index 153 (.agg beginTab) (.int .i64 11)).run Tryz.prog w = .ok (.complex .f64 4667981563525332992 4677832500515438592) w := fun _ => by kernel_rfl
  have i12 : ∀ w, (Instr.index 153 (.agg beginTab) (.int .i64 12)).run Tryz.prog w = .ok (.complex .f64 4678993722233323520 4679162909585047552) w := fun _ => by kernel_rfl
  have i13 : ∀ w, (Instr.index 153 (.agg beginTab) (.int .i64 13)).run Tryz.prog w = .ok (.complex .f64 4679167445070512128 4679239600521084928) w := fun _ => by kernel_rfl
  have i14 : ∀ w, (Instr.index 153 (.agg beginTab) (.int .i64 14)).run Tryz.prog w = .ok (.complex .f64 4679240012837945344 4696691452804071424) w := fun _ => by kernel_rfl
  simp only [beginTab, c128] at i0 i1 i2 i3 i4 i5 i6 i7 i8 i9 i10 i11 i12 i13 i14
  go_enter Tryz.func104, Tryz.ntmps104
  go_wp2_with fail
  refine wp_loop_rounds 16 ?_
  repeat any_goals (rw [rounds_succ]; go_wp2_with (go_at_call 68; refine (within_any _ _ _ _).mono ?_; rintro e w' ⟨rfl, rfl⟩))
  all_goals
    go_ret
    exact ⟨ret_bool (by simp [beginB, *]), by go_grown⟩
def goesB (r : Int) : Bool := r == 45 || r == 46 || r == 183 || wB r 4631952216750555136 4633218854145753088 || wB r 4649966615260037120 4650942981585502208 || wB r 4665763848572108800 4665764398327922688 || beginB r
set_option maxHeartbeats 1000000 in
theorem goesOn_any (r : Int) (w : World) :
    Calls Tryz.prog 105 #[.int .i32 r] w fun e w' => e = .returned (.bool (goesB r)) ∧ Below w.heap.size w w' := by
  go_enter Tryz.func105, Tryz.ntmps105
  go_wp2_with (first | (go_at_call 68; refine (within_any _ _ _ _).mono ?_; rintro e w' ⟨rfl, rfl⟩) | (go_at_call 104; refine (begins_any _ _).mono ?_; rintro e w' ⟨rfl, hb⟩))
  all_goals
    go_ret
    exact ⟨ret_bool (by simp [goesB, *]), by first | assumption | exact Below.refl _ _⟩
end Go.Proofs.YthkkfldmoflfaaaGreatDoor
/- The tests by floats and the tests by numbers are the same tests, for every character of 32 bits. -/
namespace Go.Proofs.YthkkfldmoflfaaaGreatDoor
open Go.RowKit
theorem wB_eq (r lo hi : Int) (fa fb : Nat) (h1 : floatOfInt .f64 lo = fa) (h2 : floatOfInt .f64 hi = fb) (hl : lo.natAbs < 2 ^ 53) (hh : hi.natAbs < 2 ^ 53) (hr : r.natAbs < 2 ^ 53) :
    wB r fa fb = (decide (lo ≤ r) && decide (r ≤ hi)) := by
  subst h1 h2
  unfold wB
  rw [FloatInt.le_nearest lo r hl hr, FloatInt.le_nearest r hi hr hh]
theorem charB_eq (r : Int) (hr : r.natAbs < 2 ^ 53) : charB r = charR r := by
  unfold charB charR
  rw [wB_eq r 32 55295 _ _ (by decide +kernel) (by decide +kernel) (by decide) (by decide) hr,
    wB_eq r 57344 65533 _ _ (by decide +kernel) (by decide +kernel) (by decide) (by decide) hr,
    wB_eq r 65536 1114111 _ _ (by decide +kernel) (by decide +kernel) (by decide) (by decide) hr]
theorem beginB_eq (r : Int) (hr : r.natAbs < 2 ^ 53) : beginB r = inL r beginL := by
  unfold beginB
  rw [wB_eq r 65 90 _ _ (by decide +kernel) (by decide +kernel) (by decide) (by decide) hr,
    wB_eq r 95 95 _ _ (by decide +kernel) (by decide +kernel) (by decide) (by decide) hr,
    wB_eq r 97 122 _ _ (by decide +kernel) (by decide +kernel) (by decide) (by decide) hr,
    wB_eq r 192 214 _ _ (by decide +kernel) (by decide +kernel) (by decide) (by decide) hr,
    wB_eq r 216 246 _ _ (by decide +kernel) (by decide +kernel) (by decide) (by decide) hr,
    wB_eq r 248 767 _ _ (by decide +kernel) (by decide +kernel) (by decide) (by decide) hr,
    wB_eq r 880 893 _ _ (by decide +kernel) (by decide +kernel) (by decide) (by decide) hr,
    wB_eq r 895 8191 _ _ (by decide +kernel) (by decide +kernel) (by decide) (by decide) hr,
    wB_eq r 8204 8205 _ _ (by decide +kernel) (by decide +kernel) (by decide) (by decide) hr,
    wB_eq r 8304 8591 _ _ (by decide +kernel) (by decide +kernel) (by decide) (by decide) hr,
    wB_eq r 11264 12271 _ _ (by decide +kernel) (by decide +kernel) (by decide) (by decide) hr,
    wB_eq r 12289 55295 _ _ (by decide +kernel) (by decide +kernel) (by decide) (by decide) hr,
    wB_eq r 63744 64975 _ _ (by decide +kernel) (by decide +kernel) (by decide) (by decide) hr,
    wB_eq r 65008 65533 _ _ (by decide +kernel) (by decide +kernel) (by decide) (by decide) hr,
    wB_eq r 65536 983039 _ _ (by decide +kernel) (by decide +kernel) (by decide) (by decide) hr]
  rw [Bool.eq_iff_iff]
  simp [beginL, inL]
  omega
theorem goesB_eq (r : Int) (hr : r.natAbs < 2 ^ 53) : goesB r = (inL r beginL || inL r onL) := by
  unfold goesB
  rw [beginB_eq r hr, wB_eq r 48 57 _ _ (by decide +kernel) (by decide +kernel) (by decide) (by decide) hr,
    wB_eq r 768 879 _ _ (by decide +kernel) (by decide +kernel) (by decide) (by decide) hr,
    wB_eq r 8255 8256 _ _ (by decide +kernel) (by decide +kernel) (by decide) (by decide) hr]
  cases inL r beginL
  · rw [Bool.eq_iff_iff]
    simp [onL, inL]
    omega
  · simp
theorem char_of_goes (r : Int) (hr : r.natAbs < 2 ^ 53) (h : goesB r = true) : charB r = true := by
  rw [goesB_eq r hr] at h
  rw [charB_eq r hr]
  simp [beginL, onL, inL] at h
  simp [charR]
  omega
end Go.Proofs.YthkkfldmoflfaaaGreatDoor
