/- Several texts, laid as one. -/
import Derived.Test.YtkklapoceknbcaaGreatDoorRows
import Derived.WalkKit
import Derived.WalkSpells
import Derived.Handy
import Derived.WalkLawsBesides
import Derived.Laws.ComplexArith
import Derived.Test.YtkklapoceknbcaaGreatDoorShelf
import Derived.Lib.Replace
import Derived.Lib.IndexLaws
import Derived.Lib.OthersKept
import Derived.Lib.ValidLaws
import Derived.ArgAppend
import Derived.Lib.SlBytesConst
import Derived.Lib.RuneBytes
import Derived.Lib.TrimUEq
import Derived.Lib.DecodeN
import Derived.Lib.RuneCountTail
import Derived.Shelf.Strings.BuilderK
/- Small lemmas that every walk of this seat uses. -/
namespace Go.Proofs.YtkklapoceknbcaaGreatDoor
open Go.RowKit
theorem ret_bool {a b : Bool} (h : a = b) : Ending.returned (.bool a) = .returned (.bool b) := by rw [h]
theorem ret_int {k : IntKind} {a b : Int} (h : a = b) : Ending.returned (.int k a) = .returned (.int k b) := by rw [h]
theorem ret_str {a b : ByteArray} (h : a = b) : Ending.returned (.string a) = .returned (.string b) := by rw [h]
theorem hide {p : Prop} (h : p) : Hid p := h
theorem unhide {p : Prop} (h : Hid p) : p := h
end Go.Proofs.YtkklapoceknbcaaGreatDoor
/- Whole numbers below 2^53 are written, compared, added, subtracted and read back exactly as float64: plain lemmas on the floats, of no program. -/
namespace Go.Proofs.YtkklapoceknbcaaGreatDoor
namespace FloatInt
open Ieee

/-- A datum that stands for the integer n: '|n| * 2 ^ k * 2 ^ (-k)' with n's sign. -/
def Stands (d : Datum) (n : Int) : Prop := ∃ k : Nat, d = .number (decide (n < 0)) (n.natAbs * 2 ^ k) (-(k : Int))

theorem signed_stands (n : Int) (k up : Nat) : Ieee.signed (decide (n < 0)) (n.natAbs * 2 ^ k) up = n * 2 ^ (k + up) := by
  unfold Ieee.signed
  rw [Nat.shiftLeft_eq, Nat.mul_assoc, ← Nat.pow_add]
  by_cases h : n < 0
  · rw [if_pos (decide_eq_true h)]
    have e : n = -(n.natAbs : Int) := by omega
    push_cast
    rw [← Int.neg_mul, ← e]
  · rw [if_neg (by simp [h])]
    have e : (n.natAbs : Int) = n := by omega
    push_cast
    rw [e]

theorem signed_not (n : Int) (k up : Nat) : Ieee.signed (!decide (n < 0)) (n.natAbs * 2 ^ k) up = -(n * 2 ^ (k + up)) := by
  rw [← signed_stands]
  unfold Ieee.signed
  cases decide (n < 0) <;> simp

theorem compare_mul (a b : Int) (c : Int) (hc : 0 < c) : compare (a * c) (b * c) = compare a b := by
  rcases Int.lt_trichotomy a b with h | h | h
  · have h' : a * c < b * c := Int.mul_lt_mul_of_pos_right h hc
    simp [compare, compareOfLessAndEq, h, h']
  · subst h; simp
  · have h' : b * c < a * c := Int.mul_lt_mul_of_pos_right h hc
    simp [compare, compareOfLessAndEq, Int.lt_asymm h, Int.lt_asymm h', Int.ne_of_gt h, Int.ne_of_gt h']

theorem order_stands {d e : Datum} {a b : Int} (ha : Stands d a) (hb : Stands e b) : d.order e = some (compare a b) := by
  obtain ⟨k, rfl⟩ := ha
  obtain ⟨l, rfl⟩ := hb
  simp only [Datum.order, signed_stands]
  have e1 : k + (-(k : Int) - min (-(k : Int)) (-(l : Int))).toNat = max k l := by omega
  have e2 : l + (-(l : Int) - min (-(k : Int)) (-(l : Int))).toNat = max k l := by omega
  rw [e1, e2, compare_mul _ _ _ (Int.pow_pos (by decide))]

theorem cut_zero (s : Bool) (n : Nat) : Toward.even.cut s n 0 = n := by
  simp [Toward.cut, Nat.mod_one]

theorem cut_scaled (way : Toward) (s : Bool) (n d : Nat) (hn : n ≠ 0) : way.cut s (n * 2 ^ d) d = n := by
  have h1 : d ≤ (n * 2 ^ d).log2 + 2 := by
    have : d ≤ (n * 2 ^ d).log2 := by
      rw [Nat.le_log2 (Nat.mul_ne_zero hn (Nat.ne_of_gt (Nat.two_pow_pos _)))]
      exact Nat.le_mul_of_pos_left _ (Nat.pos_of_ne_zero hn)
    omega
  have e : (1 <<< min d ((n * 2 ^ d).log2 + 2)) = 2 ^ d := by rw [Nat.min_eq_left h1, Nat.shiftLeft_eq, Nat.one_mul]
  have p : 0 < 2 ^ d := Nat.two_pow_pos _
  unfold Toward.cut
  simp only [e, Nat.mul_div_cancel _ p, Nat.mul_mod_left]
  cases way <;> simp

theorem read_word (s : Bool) (rung : Nat) (h : rung < double.signWeight) : double.read (double.word s rung) =
    (if rung < double.binade then .number s rung double.leastPlace
     else if rung < double.infRung then .number s (double.binade + rung % double.binade) (double.leastPlace + (rung / double.binade - 1 : Nat))
     else if rung = double.infRung then .infinity s
     else .nan s (rung - double.infRung)) := by
  have hp : 0 < double.signWeight := Nat.two_pow_pos _
  unfold Format.read Format.word
  cases s
  · have e1 : rung / double.signWeight = 0 := Nat.div_eq_of_lt h
    have e2 : rung % double.signWeight = rung := Nat.mod_eq_of_lt h
    simp [e1, e2]
  · have e1 : (double.signWeight + rung) / double.signWeight = 1 := by
      rw [Nat.add_div_left _ hp, Nat.div_eq_of_lt h]
    have e2 : (double.signWeight + rung) % double.signWeight = rung := by
      rw [Nat.add_mod_left, Nat.mod_eq_of_lt h]
    simp [e1, e2]

theorem log2_scaled (m k : Nat) (h0 : m ≠ 0) : (m * 2 ^ k).log2 = m.log2 + k := by
  have n0 : m * 2 ^ k ≠ 0 := Nat.mul_ne_zero h0 (Nat.ne_of_gt (Nat.two_pow_pos _))
  refine (Nat.log2_eq_iff n0).2 ⟨?_, ?_⟩
  · rw [Nat.pow_add]; exact Nat.mul_le_mul_right _ (Nat.log2_self_le h0)
  · rw [Nat.add_right_comm, Nat.pow_add]; exact Nat.mul_lt_mul_of_pos_right Nat.lt_log2_self (Nat.two_pow_pos _)

/-- A number below 2^53 is written exactly, however it is scaled. -/
theorem nearest_scaled (s : Bool) (m k : Nat) (h0 : m ≠ 0) (h : m < 2 ^ 53) :
    double.nearest s (m * 2 ^ k) (-(k : Int)) = double.word s ((m.log2 + 1022) * 2 ^ 52 + m * 2 ^ (52 - m.log2)) := by
  have n0 : m * 2 ^ k ≠ 0 := Nat.mul_ne_zero h0 (Nat.ne_of_gt (Nat.two_pow_pos _))
  have hl : m.log2 ≤ 52 := by have := (Nat.log2_lt h0).2 h; omega
  have hhi : m < 2 ^ (m.log2 + 1) := Nat.lt_log2_self
  unfold Format.nearest
  rw [if_neg n0]
  have e1 : max (-(k : Int) + ((m * 2 ^ k).log2 : Nat) - (double.fractionBits : Nat)) double.leastPlace = (m.log2 : Int) - 52 := by
    have a : ((double.fractionBits : Nat) : Int) = 52 := rfl
    have b : double.leastPlace = -1074 := by decide
    rw [a, b, log2_scaled m k h0]; omega
  have b : double.leastPlace = -1074 := by decide
  have bi : double.binade = 2 ^ 52 := rfl
  have ir : double.infRung = 2047 * 2 ^ 52 := rfl
  simp only [e1]
  rw [b]
  generalize hL : m.log2 = l at *
  have e4 : ((l : Int) - 52 - -1074).toNat = l + 1022 := by omega
  rw [e4]
  have k2 : m * 2 ^ (52 - l) < 2 ^ 53 := by
    calc m * 2 ^ (52 - l) < 2 ^ (l + 1) * 2 ^ (52 - l) := Nat.mul_lt_mul_of_pos_right hhi (Nat.two_pow_pos _)
      _ = 2 ^ 53 := by rw [← Nat.pow_add]; congr 1; omega
  have e5 : Toward.even.cut s ((m * 2 ^ k) <<< (-(k : Int) - ((l : Int) - 52)).toNat) (((l : Int) - 52) - -(k : Int)).toNat = m * 2 ^ (52 - l) := by
    rw [Nat.shiftLeft_eq]
    by_cases hk : k ≤ 52 - l
    · have a1 : (-(k : Int) - ((l : Int) - 52)).toNat = 52 - l - k := by omega
      have a2 : (((l : Int) - 52) - -(k : Int)).toNat = 0 := by omega
      rw [a1, a2, cut_zero, Nat.mul_assoc, ← Nat.pow_add]; congr 2; omega
    · have a1 : (-(k : Int) - ((l : Int) - 52)).toNat = 0 := by omega
      have a2 : (((l : Int) - 52) - -(k : Int)).toNat = k - (52 - l) := by omega
      have a3 : m * 2 ^ k * 2 ^ 0 = m * 2 ^ (52 - l) * 2 ^ (k - (52 - l)) := by
        rw [Nat.pow_zero, Nat.mul_one, Nat.mul_assoc, ← Nat.pow_add]; congr 2; omega
      rw [a1, a2, a3]
      exact cut_scaled _ _ _ _ (Nat.mul_ne_zero h0 (Nat.ne_of_gt (Nat.two_pow_pos _)))
  rw [e5, bi, ir, Nat.min_eq_left (by omega)]

theorem stands_nearest (n : Int) (h : n.natAbs < 2 ^ 53) : Stands (double.read (FloatKind.f64.nearest n)) n := by
  unfold FloatKind.nearest FloatKind.encode Format.write
  show Stands (double.read (double.nearest (decide (n < 0)) n.natAbs 0)) n
  by_cases h0 : n.natAbs = 0
  · have hn : n = 0 := by omega
    subst hn
    unfold Format.nearest
    rw [if_pos h0, read_word _ _ (Nat.two_pow_pos _), if_pos (show 0 < double.binade from Nat.two_pow_pos _)]
    have z : ∀ k : Nat, Datum.number (decide ((0 : Int) < 0)) 0 (-(k : Int)) = .number (decide ((0 : Int) < 0)) (Int.natAbs 0 * 2 ^ k) (-(k : Int)) := fun k => by
      rw [show Int.natAbs 0 = 0 from rfl, Nat.zero_mul]
    have b : double.leastPlace = -((1074 : Nat) : Int) := by decide
    rw [b]
    generalize 1074 = k
    exact ⟨k, z k⟩
  · have e := nearest_scaled (decide (n < 0)) n.natAbs 0 h0 h
    rw [Nat.pow_zero, Nat.mul_one, show -((0 : Nat) : Int) = 0 from rfl] at e
    rw [e]
    have hl : n.natAbs.log2 ≤ 52 := by have := (Nat.log2_lt h0).2 h; omega
    have hlo := Nat.log2_self_le h0
    have hhi : n.natAbs < 2 ^ (n.natAbs.log2 + 1) := Nat.lt_log2_self
    generalize n.natAbs.log2 = l at *
    have b : double.leastPlace = -1074 := by decide
    have bi : double.binade = 2 ^ 52 := rfl
    have ir : double.infRung = 2047 * 2 ^ 52 := rfl
    have sw : double.signWeight = 2 ^ 63 := rfl
    have k1 : 2 ^ 52 ≤ n.natAbs * 2 ^ (52 - l) := by
      calc 2 ^ 52 = 2 ^ l * 2 ^ (52 - l) := by rw [← Nat.pow_add]; congr 1; omega
        _ ≤ n.natAbs * 2 ^ (52 - l) := Nat.mul_le_mul_right _ hlo
    have k2 : n.natAbs * 2 ^ (52 - l) < 2 ^ 53 := by
      calc n.natAbs * 2 ^ (52 - l) < 2 ^ (l + 1) * 2 ^ (52 - l) := Nat.mul_lt_mul_of_pos_right hhi (Nat.two_pow_pos _)
        _ = 2 ^ 53 := by rw [← Nat.pow_add]; congr 1; omega
    refine ⟨52 - l, ?_⟩
    generalize n.natAbs * 2 ^ (52 - l) = K at *
    rw [read_word _ _ (by rw [sw]; omega), bi, ir, if_neg (by omega), if_pos (by omega)]
    congr 1
    · omega
    · rw [b]; omega

theorem order_nearest (a b : Int) (ha : a.natAbs < 2 ^ 53) (hb : b.natAbs < 2 ^ 53) :
    FloatKind.f64.format.order (floatOfInt .f64 a) (floatOfInt .f64 b) = some (compare a b) :=
  order_stands (stands_nearest a ha) (stands_nearest b hb)

theorem le_nearest (a b : Int) (ha : a.natAbs < 2 ^ 53) (hb : b.natAbs < 2 ^ 53) :
    (FloatKind.f64.format.order (floatOfInt .f64 a) (floatOfInt .f64 b) == some .lt || FloatKind.f64.format.order (floatOfInt .f64 a) (floatOfInt .f64 b) == some .eq) = decide (a ≤ b) := by
  rw [order_nearest a b ha hb]
  rcases Int.lt_trichotomy a b with h | h | h
  · simp [compare, compareOfLessAndEq, h, Int.le_of_lt h]
  · subst h; simp
  · simp [compare, compareOfLessAndEq, Int.lt_asymm h, Int.ne_of_gt h, Int.not_le.2 h]

theorem write_stands (c : Int) (k : Nat) (h : c.natAbs < 2 ^ 53) : double.write (.number (decide (c < 0)) (c.natAbs * 2 ^ k) (-(k : Int))) = floatOfInt .f64 c := by
  show double.nearest (decide (c < 0)) (c.natAbs * 2 ^ k) (-(k : Int)) = double.nearest (decide (c < 0)) c.natAbs 0
  by_cases h0 : c.natAbs = 0
  · rw [h0, Nat.zero_mul]; unfold Format.nearest; rw [if_pos rfl, if_pos rfl]
  · rw [nearest_scaled _ _ _ h0 h]
    have e := nearest_scaled (decide (c < 0)) c.natAbs 0 h0 h
    rw [Nat.pow_zero, Nat.mul_one, show -((0 : Nat) : Int) = 0 from rfl] at e
    rw [e]

theorem total_stands (c : Int) (K : Nat) : (c * 2 ^ K).natAbs = c.natAbs * 2 ^ K := by
  rw [Int.natAbs_mul, Int.natAbs_pow]; rfl

theorem neg_scaled (c : Int) (K : Nat) : decide (c * 2 ^ K < 0) = decide (c < 0) := by
  have hp : (0 : Int) < 2 ^ K := Int.pow_pos (by decide)
  rw [decide_eq_decide]
  constructor
  · intro h; exact Int.not_le.1 fun h' => Int.not_le.2 h (Int.mul_nonneg h' (Int.le_of_lt hp))
  · intro h; exact Int.mul_neg_of_neg_of_pos h hp

theorem zero_scaled (c : Int) (K : Nat) : c * 2 ^ K = 0 ↔ c = 0 := by
  have hp : (2 : Int) ^ K ≠ 0 := Int.ne_of_gt (Int.pow_pos (by decide))
  constructor
  · intro h; rcases Int.mul_eq_zero.1 h with h | h
    · exact h
    · exact absurd h hp
  · rintro rfl; exact Int.zero_mul _

theorem add_nearest (a b : Int) (ha : a.natAbs < 2 ^ 53) (hb : b.natAbs < 2 ^ 53) (hc : (a + b).natAbs < 2 ^ 53) :
    floatBits .add .f64 (floatOfInt .f64 a) (floatOfInt .f64 b) = some (floatOfInt .f64 (a + b)) := by
  obtain ⟨k, h1⟩ := stands_nearest a ha
  obtain ⟨l, h2⟩ := stands_nearest b hb
  show double.add (FloatKind.f64.nearest a) (FloatKind.f64.nearest b) = _
  unfold Format.add
  rw [h1, h2]
  simp only [Datum.sum, signed_stands]
  have e1 : k + (-(k : Int) - min (-(k : Int)) (-(l : Int))).toNat = max k l := by omega
  have e2 : l + (-(l : Int) - min (-(k : Int)) (-(l : Int))).toNat = max k l := by omega
  have e3 : min (-(k : Int)) (-(l : Int)) = -((max k l : Nat) : Int) := by omega
  rw [e1, e2, e3, ← Int.add_mul, total_stands, neg_scaled]
  have e4 : (if (a + b) * 2 ^ (max k l) = 0 then decide (a < 0) && decide (b < 0) else decide (a + b < 0)) = decide (a + b < 0) := by
    by_cases h : a + b = 0
    · rw [if_pos ((zero_scaled _ _).2 h)]
      by_cases h' : a < 0
      · simp [h', h]; omega
      · simp [h', h]
    · rw [if_neg (fun x => h ((zero_scaled _ _).1 x))]
  rw [e4, Option.map_some, write_stands _ _ hc]

theorem sub_nearest (a b : Int) (ha : a.natAbs < 2 ^ 53) (hb : b.natAbs < 2 ^ 53) (hc : (a - b).natAbs < 2 ^ 53) :
    floatBits .sub .f64 (floatOfInt .f64 a) (floatOfInt .f64 b) = some (floatOfInt .f64 (a - b)) := by
  obtain ⟨k, h1⟩ := stands_nearest a ha
  obtain ⟨l, h2⟩ := stands_nearest b hb
  show double.sub (FloatKind.f64.nearest a) (FloatKind.f64.nearest b) = _
  unfold Format.sub
  rw [h1, h2]
  simp only [Datum.sum, Datum.opposite, signed_stands, signed_not]
  have e1 : k + (-(k : Int) - min (-(k : Int)) (-(l : Int))).toNat = max k l := by omega
  have e2 : l + (-(l : Int) - min (-(k : Int)) (-(l : Int))).toNat = max k l := by omega
  have e3 : min (-(k : Int)) (-(l : Int)) = -((max k l : Nat) : Int) := by omega
  rw [e1, e2, e3, ← Int.sub_eq_add_neg, ← Int.sub_mul, total_stands, neg_scaled]
  have e4 : (if (a - b) * 2 ^ (max k l) = 0 then decide (a < 0) && !decide (b < 0) else decide (a - b < 0)) = decide (a - b < 0) := by
    by_cases h : a - b = 0
    · rw [if_pos ((zero_scaled _ _).2 h)]
      have : a = b := by omega
      subst this
      simp
    · rw [if_neg (fun x => h ((zero_scaled _ _).1 x))]
  rw [e4, Option.map_some, write_stands _ _ hc]

theorem toInt_nearest (n : Int) (h : n.natAbs < 2 ^ 53) : (FloatKind.f64.decode (floatOfInt .f64 n)).toInt .zero = some n := by
  obtain ⟨k, h1⟩ := stands_nearest n h
  show (double.read (FloatKind.f64.nearest n)).toInt .zero = _
  rw [h1]
  have e0 : (-(k : Int)).toNat = 0 := by omega
  have e1 : (- -(k : Int)).toNat = k := by omega
  simp only [Datum.toInt, Datum.integral, e0, e1, Nat.shiftLeft_zero]
  by_cases h0 : n.natAbs = 0
  · have hn : n = 0 := by omega
    subst hn
    simp [Toward.cut, Ieee.signed]
  · rw [cut_scaled _ _ _ _ h0]
    have := signed_stands n 0 0
    simp only [Nat.pow_zero, Nat.mul_one, Nat.add_zero, Int.pow_zero, Int.mul_one] at this
    rw [this]

theorem toIntVal_nearest (n : Int) (h1 : -2147483648 ≤ n) (h2 : n ≤ 2147483647) : floatToIntVal .f64 (floatOfInt .f64 n) .i32 = some n := by
  unfold floatToIntVal
  rw [toInt_nearest n (by omega)]
  have a : IntKind.min .i32 = -2147483648 := rfl
  have b : IntKind.max .i32 = 2147483647 := rfl
  simp only [a, b]
  rw [if_pos ⟨h1, h2⟩]
end FloatInt
end Go.Proofs.YtkklapoceknbcaaGreatDoor
/- Which characters may be, are blanks, lie in a range: the contracts of xchar's and the reference's small tests. -/
namespace Go.Proofs.YtkklapoceknbcaaGreatDoor
open Go.RowKit
def wB (r : Int) (fa fb : Nat) : Bool :=
  (FloatKind.f64.format.order fa (floatOfInt FloatKind.f64 r) == some Ordering.lt || FloatKind.f64.format.order fa (floatOfInt FloatKind.f64 r) == some Ordering.eq) &&
  (FloatKind.f64.format.order (floatOfInt FloatKind.f64 r) fb == some Ordering.lt || FloatKind.f64.format.order (floatOfInt FloatKind.f64 r) fb == some Ordering.eq)
set_option maxHeartbeats 400000 in
theorem within_any (r : Int) (fa fb : Nat) (w : World) :
    Calls Tryz.prog 95 #[.int .i32 r, .complex .f64 fa fb] w fun e w' => e = .returned (.bool (wB r fa fb)) ∧ w' = w := by
  go_enter Tryz.func95, Tryz.ntmps95
  go_wp2
  all_goals
    go_ret
    exact ⟨by simp [wB, *], rfl⟩
def charB (r : Int) : Bool := r == 9 || r == 10 || r == 13 || wB r 4629700416936869888 4677832500515438592 || wB r 4678114112931102720 4679239600521084928 || wB r 4679240012837945344 4697535882029170688
set_option maxHeartbeats 400000 in
theorem isChar_any (r : Int) (w : World) :
    Calls Tryz.prog 93 #[.int .i32 r] w fun e w' => e = .returned (.bool (charB r)) ∧ w' = w := by
  go_enter Tryz.func93, Tryz.ntmps93
  go_wp2_with (go_at_call 95; refine (within_any _ _ _ _).mono ?_; rintro e w' ⟨rfl, rfl⟩)
  all_goals
    go_ret
    exact ⟨by simp [charB, *], rfl⟩
def charR (r : Int) : Bool := r == 9 || r == 10 || r == 13 || (decide (32 ≤ r) && decide (r ≤ 55295)) || (decide (57344 ≤ r) && decide (r ≤ 65533)) || (decide (65536 ≤ r) && decide (r ≤ 1114111))
def blankB (r : Int) : Bool := r == 9 || r == 10 || r == 13 || r == 32
theorem isBlank_any (r : Int) (w : World) :
    Calls Tryz.prog 70 #[.int .i32 r] w fun e w' => e = .returned (.bool (blankB r)) ∧ w' = w := by
  go_enter Tryz.func70, Tryz.ntmps70
  go_wp2
  all_goals
    go_ret
    refine ⟨ret_bool ?_, rfl⟩
    rw [Bool.eq_iff_iff]
    simp [blankB]
    try omega
end Go.Proofs.YtkklapoceknbcaaGreatDoor
/- Which characters begin names and go on in them: xchar's Begins and GoesOn. -/
namespace Go.Proofs.YtkklapoceknbcaaGreatDoor
open Go.RowKit
section
variable {P : Program} (w : World) (a : Addr) (m : Mode)
theorem run_store_complex (k : FloatKind) (x y : Nat) : (store a (.complex k x y) m).run P w = stored P w a (.complex k x y) m := run_store P w a _ m rfl
end
attribute [local go_sem] run_store_complex
abbrev c128 (x y : Nat) : Value := .complex .f64 x y
abbrev beginTab : Array Value := #[c128 4634274385308418048 4636033603912859648, c128 4636385447633747968 4636385447633747968, c128 4636526185122103296 4638285403726544896, c128 4640959416005296128 4641733472191250432, c128 4641803840935428096 4642859372098093056, c128 4642929740842270720 4649957819167014912, c128 4650951777678524416 4651066126887813120, c128 4651083719073857536 4665728114444206080, c128 4665735811025600512 4665736360781414400, c128 4665790786606989312 4665948566525575168, c128 4667418063816097792 4667971667920683008, c128 4667981563525332992 4677832500515438592, c128 4678993722233323520 4679162909585047552, c128 4679167445070512128 4679239600521084928, c128 4679240012837945344 4696691452804071424]
def beginB (r : Int) : Bool := wB r 4634274385308418048 4636033603912859648 || wB r 4636385447633747968 4636385447633747968 || wB r 4636526185122103296 4638285403726544896 || wB r 4640959416005296128 4641733472191250432 || wB r 4641803840935428096 4642859372098093056 || wB r 4642929740842270720 4649957819167014912 || wB r 4650951777678524416 4651066126887813120 || wB r 4651083719073857536 4665728114444206080 || wB r 4665735811025600512 4665736360781414400 || wB r 4665790786606989312 4665948566525575168 || wB r 4667418063816097792 4667971667920683008 || wB r 4667981563525332992 4677832500515438592 || wB r 4678993722233323520 4679162909585047552 || wB r 4679167445070512128 4679239600521084928 || wB r 4679240012837945344 4696691452804071424
set_option maxHeartbeats 4000000 in
set_option maxRecDepth 100000 in
theorem begins_any (r : Int) (w : World) :
    Calls Tryz.prog 65 #[.int .i32 r] w fun e w' => e = .returned (.bool (beginB r)) ∧ Below w.heap.size w w' := by
  have i0 : ∀ w, (Instr.index 98 (.agg beginTab) (.int .i64 0)).run Tryz.prog w = .ok (.complex .f64 4634274385308418048 4636033603912859648) w := fun _ => by kernel_rfl
  have i1 : ∀ w, (Instr.index 98 (.agg beginTab) (.int .i64 1)).run Tryz.prog w = .ok (.complex .f64 4636385447633747968 4636385447633747968) w := fun _ => by kernel_rfl
  have i2 : ∀ w, (Instr.index 98 (.agg beginTab) (.int .i64 2)).run Tryz.prog w = .ok (.complex .f64 4636526185122103296 4638285403726544896) w := fun _ => by kernel_rfl
  have i3 : ∀ w, (Instr.index 98 (.agg beginTab) (.int .i64 3)).run Tryz.prog w = .ok (.complex .f64 4640959416005296128 4641733472191250432) w := fun _ => by kernel_rfl
  have i4 : ∀ w, (Instr.index 98 (.agg beginTab) (.int .i64 4)).run Tryz.prog w = .ok (.complex .f64 4641803840935428096 4642859372098093056) w := fun _ => by kernel_rfl
  have i5 : ∀ w, (Instr.index 98 (.agg beginTab) (.int .i64 5)).run Tryz.prog w = .ok (.complex .f64 4642929740842270720 4649957819167014912) w := fun _ => by kernel_rfl
  have i6 : ∀ w, (Instr.index 98 (.agg beginTab) (.int .i64 6)).run Tryz.prog w = .ok (.complex .f64 4650951777678524416 4651066126887813120) w := fun _ => by kernel_rfl
  have i7 : ∀ w, (Instr.index 98 (.agg beginTab) (.int .i64 7)).run Tryz.prog w = .ok (.complex .f64 4651083719073857536 4665728114444206080) w := fun _ => by kernel_rfl
  have i8 : ∀ w, (Instr.index 98 (.agg beginTab) (.int .i64 8)).run Tryz.prog w = .ok (.complex .f64 4665735811025600512 4665736360781414400) w := fun _ => by kernel_rfl
  have i9 : ∀ w, (Instr.index 98 (.agg beginTab) (.int .i64 9)).run Tryz.prog w = .ok (.complex .f64 4665790786606989312 4665948566525575168) w := fun _ => by kernel_rfl
  have i10 : ∀ w, (Instr.index 98 (.agg beginTab) (.int .i64 10)).run Tryz.prog w = .ok (.complex .f64 4667418063816097792 4667971667920683008) w := fun _ => by kernel_rfl
  have i11 : ∀ w, (Instr.index 98 (.agg beginTab) (.int .i64 11)).run Tryz.prog w = .ok (.complex .f64 4667981563525332992 4677832500515438592) w := fun _ => by kernel_rfl
  have i12 : ∀ w, (Instr.index 98 (.agg beginTab) (.int .i64 12)).run Tryz.prog w = .ok (.complex .f64 4678993722233323520 4679162909585047552) w := fun _ => by kernel_rfl
  have i13 : ∀ w, (Instr.index 98 (.agg beginTab) (.int .i64 13)).run Tryz.prog w = .ok (.complex .f64 4679167445070512128 4679239600521084928) w := fun _ => by kernel_rfl
  have i14 : ∀ w, (Instr.index 98 (.agg beginTab) (.int .i64 14)).run Tryz.prog w = .ok (.complex .f64 4679240012837945344 4696691452804071424) w := fun _ => by kernel_rfl
  simp only [beginTab, c128] at i0 i1 i2 i3 i4 i5 i6 i7 i8 i9 i10 i11 i12 i13 i14
  go_enter Tryz.func65, Tryz.ntmps65
  go_wp2_with fail
  refine wp_loop_rounds 16 ?_
  repeat any_goals (rw [rounds_succ]; go_wp2_with (go_at_call 95; refine (within_any _ _ _ _).mono ?_; rintro e w' ⟨rfl, rfl⟩))
  all_goals
    go_ret
    exact ⟨ret_bool (by simp [beginB, *]), by go_grown⟩
def goesB (r : Int) : Bool := r == 45 || r == 46 || r == 183 || wB r 4631952216750555136 4633218854145753088 || wB r 4649966615260037120 4650942981585502208 || wB r 4665763848572108800 4665764398327922688 || beginB r
set_option maxHeartbeats 1000000 in
theorem goesOn_any (r : Int) (w : World) :
    Calls Tryz.prog 66 #[.int .i32 r] w fun e w' => e = .returned (.bool (goesB r)) ∧ Below w.heap.size w w' := by
  go_enter Tryz.func66, Tryz.ntmps66
  go_wp2_with (first | (go_at_call 95; refine (within_any _ _ _ _).mono ?_; rintro e w' ⟨rfl, rfl⟩) | (go_at_call 65; refine (begins_any _ _).mono ?_; rintro e w' ⟨rfl, hb⟩))
  all_goals
    go_ret
    exact ⟨ret_bool (by simp [goesB, *]), by first | assumption | exact Below.refl _ _⟩
end Go.Proofs.YtkklapoceknbcaaGreatDoor
/- Ranges of characters, as lists of their ends: plain lemmas. -/
namespace Go.Proofs.YtkklapoceknbcaaGreatDoor
open Go.RowKit
def inL (r : Int) : List Int → Bool
  | lo :: hi :: t => (decide (lo ≤ r) && decide (r ≤ hi)) || inL r t
  | _ => false
theorem inL_drop (r : Int) (zs : List Int) (k : Nat) (h : k + 1 < zs.length) :
    inL r (zs.drop k) = ((decide (zs.getD k 0 ≤ r) && decide (r ≤ zs.getD (k + 1) 0)) || inL r (zs.drop (k + 2))) := by
  have e1 : zs.drop k = zs.getD k 0 :: zs.getD (k + 1) 0 :: zs.drop (k + 2) := by
    rw [List.drop_eq_getElem_cons (by omega), List.drop_eq_getElem_cons (by omega)]
    simp [List.getD_eq_getElem?_getD, List.getElem?_eq_getElem (show k < zs.length by omega), List.getElem?_eq_getElem h]
  rw [e1, inL]
theorem inL_end (r : Int) (zs : List Int) (k : Nat) (h : zs.length ≤ k + 1) : inL r (zs.drop k) = false := by
  have : (zs.drop k).length ≤ 1 := by rw [List.length_drop]; omega
  generalize zs.drop k = l at *
  match l, this with
  | [], _ => rfl
  | [_], _ => rfl
def beginL : List Int := [65, 90, 97, 122, 95, 95, 192, 214, 216, 246, 248, 767, 880, 893, 895, 8191, 8204, 8205, 8304, 8591, 11264, 12271, 12289, 55295, 63744, 64975, 65008, 65533, 65536, 983039]
def onL : List Int := [45, 45, 46, 46, 48, 57, 183, 183, 768, 879, 8255, 8256]
end Go.Proofs.YtkklapoceknbcaaGreatDoor
/- The tests by floats and the tests by numbers are the same tests, for every character of 32 bits. -/
namespace Go.Proofs.YtkklapoceknbcaaGreatDoor
open Go.RowKit
theorem wB_eq (r lo hi : Int) (fa fb : Nat) (h1 : floatOfInt .f64 lo = fa) (h2 : floatOfInt .f64 hi = fb) (hl : lo.natAbs < 2 ^ 53) (hh : hi.natAbs < 2 ^ 53) (hr : r.natAbs < 2 ^ 53) :
    wB r fa fb = (decide (lo ≤ r) && decide (r ≤ hi)) := by
  subst h1 h2
  unfold wB
  rw [FloatInt.le_nearest lo r hl hr, FloatInt.le_nearest r hi hr hh]
theorem charB_eq (r : Int) (hr : r.natAbs < 2 ^ 53) : charB r = charR r := by
  unfold charB charR
  rw [wB_eq r 32 55295 _ _ (by decide +kernel) (by decide +kernel) (by decide) (by decide) hr,
    wB_eq r 57344 65533 _ _ (by decide +kernel) (by decide +kernel) (by decide) (by decide) hr,
    wB_eq r 65536 1114111 _ _ (by decide +kernel) (by decide +kernel) (by decide) (by decide) hr]
theorem beginB_eq (r : Int) (hr : r.natAbs < 2 ^ 53) : beginB r = inL r beginL := by
  unfold beginB
  rw [wB_eq r 65 90 _ _ (by decide +kernel) (by decide +kernel) (by decide) (by decide) hr,
    wB_eq r 95 95 _ _ (by decide +kernel) (by decide +kernel) (by decide) (by decide) hr,
    wB_eq r 97 122 _ _ (by decide +kernel) (by decide +kernel) (by decide) (by decide) hr,
    wB_eq r 192 214 _ _ (by decide +kernel) (by decide +kernel) (by decide) (by decide) hr,
    wB_eq r 216 246 _ _ (by decide +kernel) (by decide +kernel) (by decide) (by decide) hr,
    wB_eq r 248 767 _ _ (by decide +kernel) (by decide +kernel) (by decide) (by decide) hr,
    wB_eq r 880 893 _ _ (by decide +kernel) (by decide +kernel) (by decide) (by decide) hr,
    wB_eq r 895 8191 _ _ (by decide +kernel) (by decide +kernel) (by decide) (by decide) hr,
    wB_eq r 8204 8205 _ _ (by decide +kernel) (by decide +kernel) (by decide) (by decide) hr,
    wB_eq r 8304 8591 _ _ (by decide +kernel) (by decide +kernel) (by decide) (by decide) hr,
    wB_eq r 11264 12271 _ _ (by decide +kernel) (by decide +kernel) (by decide) (by decide) hr,
    wB_eq r 12289 55295 _ _ (by decide +kernel) (by decide +kernel) (by decide) (by decide) hr,
    wB_eq r 63744 64975 _ _ (by decide +kernel) (by decide +kernel) (by decide) (by decide) hr,
    wB_eq r 65008 65533 _ _ (by decide +kernel) (by decide +kernel) (by decide) (by decide) hr,
    wB_eq r 65536 983039 _ _ (by decide +kernel) (by decide +kernel) (by decide) (by decide) hr]
  rw [Bool.eq_iff_iff]
  simp [beginL, inL]
  omega
theorem goesB_eq (r : Int) (hr : r.natAbs < 2 ^ 53) : goesB r = (inL r beginL || inL r onL) := by
  unfold goesB
  rw [beginB_eq r hr, wB_eq r 48 57 _ _ (by decide +kernel) (by decide +kernel) (by decide) (by decide) hr,
    wB_eq r 768 879 _ _ (by decide +kernel) (by decide +kernel) (by decide) (by decide) hr,
    wB_eq r 8255 8256 _ _ (by decide +kernel) (by decide +kernel) (by decide) (by decide) hr]
  cases inL r beginL
  · rw [Bool.eq_iff_iff]
    simp [onL, inL]
    omega
  · simp
theorem goes_of_begins (r : Int) (h : beginB r = true) : goesB r = true := by simp [goesB, h]
theorem char_of_goes (r : Int) (hr : r.natAbs < 2 ^ 53) (h : goesB r = true) : charB r = true := by
  rw [goesB_eq r hr] at h
  rw [charB_eq r hr]
  simp [beginL, onL, inL] at h
  simp [charR]
  omega
end Go.Proofs.YtkklapoceknbcaaGreatDoor
/- The first error of what should be UTF-8 of characters that may be: xchar's firstFault. -/
namespace Go.Proofs.YtkklapoceknbcaaGreatDoor
open Go.RowKit
theorem width_pos (s : ByteArray) (pos : Nat) (h : pos < s.size) : 1 ≤ (Utf8.decode s pos).2 := by
  by_cases ha : (s[pos]'h).toNat < 128
  · rw [decode_ascii s pos h ha]
    exact Nat.le_refl _
  · exact (decode_high s pos h (by omega)).2
/-- The bytes from a place on are those of the replacement character. -/
def markAt (s : ByteArray) (pos : Nat) : Bool := Lib.hasPrefix (s.data.toList.drop pos) [239, 191, 189]
/-- The first fault from a place on: its error's number and its place. -/
def faultFrom (s : ByteArray) : Nat → Nat → Int × Int
  | 0, _ => (0, 0)
  | f + 1, pos => if pos < s.size then
      (if ((Utf8.decode s pos).1 : Int) == 65533 && !markAt s pos then (3, (pos : Int))
       else if charB (Utf8.decode s pos).1 then faultFrom s f (pos + (Utf8.decode s pos).2) else (4, (pos : Int)))
    else (0, 0)
def fault (s : ByteArray) : Int × Int := faultFrom s (s.size + 1) 0
theorem faultFrom_step (s : ByteArray) (f pos : Nat) (hp : pos < s.size) (hb : s.size < pos + f) : ∃ g, f = g + 1 ∧ faultFrom s f pos =
    (if ((Utf8.decode s pos).1 : Int) == 65533 && !markAt s pos then (3, (pos : Int))
       else if charB (Utf8.decode s pos).1 then faultFrom s g (pos + (Utf8.decode s pos).2) else (4, (pos : Int))) := by
  cases f with
  | zero => omega
  | succ g => exact ⟨g, rfl, by rw [faultFrom, if_pos hp]⟩
theorem faultFrom_end (s : ByteArray) (f pos : Nat) (hp : ¬ pos < s.size) : faultFrom s f pos = (0, 0) := by
  cases f with
  | zero => rfl
  | succ g => rw [faultFrom, if_neg hp]
theorem hasMark_any (s : ByteArray) (pos : Nat) (w : World) :
    Calls Tryz.prog 71 #[.string (s.extract pos s.size), .string ⟨#[239, 191, 189]⟩] w fun e w' => e = .returned (.bool (markAt s pos)) ∧ w' = w := by
  refine (Tryz.strings_HasPrefix (s.extract pos s.size) ⟨#[239, 191, 189]⟩ w).mono ?_
  rintro e w' ⟨rfl, rfl⟩
  refine ⟨ret_bool ?_, rfl⟩
  unfold markAt
  congr 1
  rw [ByteArray.data_extract]
  simp [List.take_of_length_le]
theorem ret_fault {x : Int × Int} {a b : Int} (h : x = (a, b)) : Ending.returned (.tuple #[.int .i64 a, .int .i64 b]) = .returned (.tuple #[.int .i64 x.1, .int .i64 x.2]) := by rw [h]
set_option maxHeartbeats 1000000 in
theorem firstFault_any (s : ByteArray) (w : World) :
    Calls Tryz.prog 63 #[.string s] w fun e w' => e = .returned (.tuple #[.int .i64 (fault s).1, .int .i64 (fault s).2]) ∧ Below w.heap.size w w' := by
  go_enter Tryz.func63, Tryz.ntmps63
  go_wp2_with fail
  go_loopw [] (fun w' => ∃ (pos f : Nat), w' = w.iter s pos ∧ fault s = faultFrom s f pos ∧ s.size < pos + f) (fun w' => s.size - w'.iterPos w.heap.size)
  case atStart => exact ⟨0, s.size + 1, rfl, rfl, by omega⟩
  case round =>
    obtain ⟨pos, f, rfl, hf, hb⟩ := hrel
    by_cases hp : pos < s.size
    · have hnx : ∀ ty, (Instr.next (.pointer (some ⟨w.heap.size, 0, none⟩)) true ty).run Tryz.prog (w.iter s pos) = _ := fun ty => run_next_any w s pos ty hp
      have hwd := width_pos s pos hp
      obtain ⟨g, rfl, hg⟩ := faultFrom_step s f pos hp hb
      have HF := hide (hf.trans hg)
      clear hf hg
      go_wp2_with (first | (go_at_call 71; refine (hasMark_any s pos _).mono ?_; rintro e w' ⟨rfl, rfl⟩) | (go_at_call 93; refine (isChar_any _ _).mono ?_; rintro e w' ⟨rfl, rfl⟩))
      all_goals first
        | (go_ret2
           refine ⟨ret_fault ?_, (Below.refl _ _).alloc (Nat.le_refl _) _⟩
           rw [unhide HF]
           simp_all)
        | (refine ⟨⟨_, g, rfl, ?_, by omega⟩, by simp; omega⟩
           rw [unhide HF]
           simp_all)
    · have hnx : ∀ ty, (Instr.next (.pointer (some ⟨w.heap.size, 0, none⟩)) true ty).run Tryz.prog (w.iter s pos) = _ := fun ty => run_next_end w s pos ty hp
      have HF := hide (hf.trans (faultFrom_end s f pos hp))
      clear hf
      go_wp2
      go_ret2
      exact ⟨ret_fault (unhide HF), (Below.refl _ _).alloc (Nat.le_refl _) _⟩
end Go.Proofs.YtkklapoceknbcaaGreatDoor
/- Line ends, and the decoding of UTF-8: xchar's endLines and decodeAny. -/
namespace Go.Proofs.YtkklapoceknbcaaGreatDoor
open Go.RowKit
/-- What the package variables of the library hold: MaxLen an int, utf8's tables as their text lays them. -/
structure Env (w : World) : Prop where
  len : ∃ m, w.cell? ⟨5, 0, none⟩ = some (.int .i64 m)
  tabs : Lib.Utf8Tabs 0 1 w
theorem Env.below {w w' : World} (h : Env w) (hb : Below w.heap.size w w') : Env w' := by
  obtain ⟨m, hm⟩ := h.len
  exact ⟨⟨m, by rw [hb.cell (block_lt_of_cell hm)]; exact hm⟩, Utf8Tabs_below h.tabs hb⟩
theorem Below.then {a b c : World} (h : Below a.heap.size a b) (k : Below b.heap.size b c) : Below a.heap.size a c := h.trans (k.mono h.size)
theorem replaceK_le (old new : List UInt8) (hn : new.length ≤ old.length) : ∀ (k : Nat) (s : List UInt8), (Lib.replaceK old new k s).length ≤ s.length
  | 0, s => Nat.le_refl _
  | k + 1, s => by
    unfold Lib.replaceK
    by_cases h : (Lib.index s old == -1) = true
    · rw [if_pos h]; exact Nat.le_refl _
    · rw [if_neg h]
      have h1 := Lib.index_ge s old
      have h2 : Lib.index s old ≠ -1 := by simpa using h
      have h3 := Lib.index_room s old (by omega)
      have ih := replaceK_le old new hn k (s.drop ((Lib.index s old).toNat + old.length))
      rw [List.length_drop] at ih
      simp only [List.length_append, List.length_take]
      omega
theorem replaceAll_le (s old new : List UInt8) (hn : new.length ≤ old.length) : (Lib.replaceAll s old new).length ≤ s.length := by
  unfold Lib.replaceAll Lib.replace
  by_cases h : (old == new) = true
  · rw [if_pos h]; exact Nat.le_refl _
  · rw [if_neg h]; exact replaceK_le old new hn _ _
def endsL (l : List UInt8) : List UInt8 := Lib.replaceAll (Lib.replaceAll l [13, 10] [10]) [13] [10]
theorem endsL_le (l : List UInt8) : (endsL l).length ≤ l.length :=
  Nat.le_trans (replaceAll_le _ _ _ (by decide)) (replaceAll_le _ _ _ (by decide))
theorem size_mk (l : List UInt8) : (⟨l.toArray⟩ : ByteArray).size = l.length := rfl
/-- A text of no wide mark: its bytes behind the narrow mark; the place of a fault counts the mark. -/
def narrowL (l : List UInt8) : List UInt8 := Lib.trimPrefix l [239, 187, 191]
theorem narrowL_le (l : List UInt8) : (narrowL l).length ≤ l.length := by
  unfold narrowL Lib.trimPrefix
  split
  · rw [List.length_drop]; omega
  · exact Nat.le_refl _
theorem fault_bounds (s : ByteArray) : ∀ f pos, 0 ≤ (faultFrom s f pos).2 ∧ (faultFrom s f pos).2 ≤ s.size
  | 0, pos => by simp [faultFrom]
  | f + 1, pos => by
    unfold faultFrom
    by_cases hp : pos < s.size
    · rw [if_pos hp]
      split
      · simp; omega
      · split
        · exact fault_bounds s f _
        · simp; omega
    · rw [if_neg hp]; simp
/-- What Decode tells of UTF-8 behind its mark, of n bytes with it. -/
def decodedV (l : List UInt8) (n : Nat) : Value :=
  if (fault ⟨l.toArray⟩).1 = 0 then .tuple #[.string ⟨(endsL l).toArray⟩, .int .i64 0, .int .i64 0]
  else .tuple #[.string ⟨#[]⟩, .int .i64 (fault ⟨l.toArray⟩).1, .int .i64 ((fault ⟨l.toArray⟩).2 + n - l.length)]
end Go.Proofs.YtkklapoceknbcaaGreatDoor
/- Names and QNames: xchar's IsName and Split. -/
namespace Go.Proofs.YtkklapoceknbcaaGreatDoor
open Go.RowKit
theorem iterPos_of {w : World} {k : Nat} {s : ByteArray} {p : Nat} (h : w.heap[k]? = some (.stringIter s p)) : w.iterPos k = p := by
  simp [World.iterPos, h]
theorem block_below {w w' : World} {k : Nat} {o : Obj} (h : w.heap[k]? = some o) (hb : Below w.heap.size w w') : w'.heap[k]? = some o := by
  rw [hb.block k (Array.getElem?_eq_some_iff.1 h).1]; exact h
theorem iter_on {w' wr W : World} {s : ByteArray} {p p' : Nat} (hk : wr.heap[w'.heap.size]? = some (.stringIter s p)) (hbr : Below w'.heap.size w' wr)
    (hB : Below (wr.iterAt w'.heap.size s p').heap.size (wr.iterAt w'.heap.size s p') W) : W.heap[w'.heap.size]? = some (.stringIter s p') ∧ Below w'.heap.size w' W := by
  refine ⟨block_below (Lib.iterAt_heap wr w'.heap.size s p p' hk) hB, ?_⟩
  exact (Lib.below_iterAt hbr (Nat.le_refl _) s p').trans (hB.mono (by rw [Lib.iterAt_size]; exact hbr.size))
theorem toList_data (s : ByteArray) : s.toList = s.data.toList := ByteArray.toList_eq s
/-- Do the characters from a place on go on in a name, the first one begin it? -/
def nameFrom (s : ByteArray) : Nat → Nat → Bool
  | 0, _ => true
  | f + 1, pos => if pos < s.size then
      (if (((pos : Int) == 0 && !beginB (Utf8.decode s pos).1) || !goesB (Utf8.decode s pos).1) then false else nameFrom s f (pos + (Utf8.decode s pos).2))
    else true
theorem nameFrom_step (s : ByteArray) (f pos : Nat) (hp : pos < s.size) (hb : s.size < pos + f) : ∃ g, f = g + 1 ∧ nameFrom s f pos =
    (if (((pos : Int) == 0 && !beginB (Utf8.decode s pos).1) || !goesB (Utf8.decode s pos).1) then false else nameFrom s g (pos + (Utf8.decode s pos).2)) := by
  cases f with
  | zero => omega
  | succ g => exact ⟨g, rfl, by rw [nameFrom, if_pos hp]⟩
theorem nameFrom_end (s : ByteArray) (f pos : Nat) (hp : ¬ pos < s.size) : nameFrom s f pos = true := by
  cases f with
  | zero => rfl
  | succ g => rw [nameFrom, if_neg hp]
def nameB (s : ByteArray) : Bool := !s.data.toList.isEmpty && Lib.validD s.data.toList && nameFrom s (s.size + 1) 0
theorem validString_any (s : ByteArray) (w : World) (hs : s.size ≤ 9223372036854775807) (hE : Env w) :
    Calls Tryz.prog 111 #[.string s] w fun e w' => e = .returned (.bool (Lib.validD s.data.toList)) ∧ Below w.heap.size w w' :=
  Any.utf8_ValidString Tryz.laysValid s w hs hE.tabs
set_option maxHeartbeats 1000000 in
theorem isName_any (s : ByteArray) (w : World) (hs : s.size ≤ maxLen) (hE : Env w) :
    Calls Tryz.prog 87 #[.string s] w fun e w' => e = .returned (.bool (nameB s)) ∧ Below w.heap.size w w' := by
  unfold maxLen at hs
  have HE := hide hE
  clear hE
  by_cases h0 : s.toList = []
  · go_enter Tryz.func87, Tryz.ntmps87
    go_wp2
    go_ret
    have e0 : s.data.toList.isEmpty = true := by rw [← toList_data, h0]; rfl
    exact ⟨ret_bool (by simp only [nameB, e0, Bool.not_true, Bool.false_and]), Below.refl _ _⟩
  · have h0' : s.toList.isEmpty = false := by cases h : s.toList with | nil => exact absurd h h0 | cons _ _ => rfl
    cases hv : Lib.validD s.data.toList
    · have HV := hide hv
      clear hv
      go_enter Tryz.func87, Tryz.ntmps87
      go_wp2_with fail
      refine (validString_any s _ (by omega) (unhide HE)).mono ?_
      rintro e w' ⟨rfl, hb⟩
      rw [unhide HV]
      go_wp2
      go_ret
      refine ⟨ret_bool ?_, hb⟩
      simp [nameB, unhide HV]
    · have HV := hide hv
      clear hv
      go_enter Tryz.func87, Tryz.ntmps87
      go_wp2_with fail
      refine (validString_any s _ (by omega) (unhide HE)).mono ?_
      rintro e w' ⟨rfl, hb⟩
      rw [unhide HV]
      go_wp2_with fail
      go_loopw [] (fun wr => ∃ (pos f : Nat), wr.heap[w'.heap.size]? = some (.stringIter s pos) ∧ Below w'.heap.size w' wr ∧ nameFrom s (s.size + 1) 0 = nameFrom s f pos ∧ s.size < pos + f) (fun wr => s.size - wr.iterPos w'.heap.size)
      case atStart => exact ⟨0, s.size + 1, World.iter_heap _ _ _, (Below.refl _ _).alloc (Nat.le_refl _) _, rfl, by omega⟩
      case round =>
        obtain ⟨pos, f, hk, hbr, hf, hfu⟩ := hrel
        by_cases hp : pos < s.size
        · have hnx := fun ty => Lib.run_next_any_at (P := Tryz.prog) wr w'.heap.size s pos ty hk hp
          have hwd := width_pos s pos hp
          obtain ⟨g, rfl, hg⟩ := nameFrom_step s f pos hp hfu
          have HF := hide (hf.trans hg)
          have HK := hide hk
          clear hf hg hk
          generalize hd : Utf8.decode s pos = d at *
          have HD := hide hd
          clear hd
          by_cases hz : pos = 0
          · subst hz
            go_wp2_with (first | (go_at_call 65; refine (begins_any _ _).mono ?_; rintro e w1 ⟨rfl, hb1⟩) | (go_at_call 66; refine (goesOn_any _ _).mono ?_; rintro e w2 ⟨rfl, hb2⟩))
            all_goals first
              | (go_ret
                 refine ⟨ret_bool ?_, Below.then hb (iter_on (unhide HK) hbr (by first | exact Below.then hb1 hb2 | exact hb1 | exact hb2)).2⟩
                 have key : nameFrom s (s.size + 1) 0 = false := by rw [unhide HF]; simp [*]
                 simp [nameB, key])
              | (obtain ⟨q1, q2⟩ := iter_on (unhide HK) hbr (by first | exact Below.then hb1 hb2 | exact hb1 | exact hb2)
                 exact ⟨⟨_, g, q1, q2, by rw [unhide HF]; simp_all, by omega⟩, by rw [iterPos_of q1, iterPos_of (unhide HK)]; omega⟩)
          · have hz' : ((pos : Int) == 0) = false := by simpa using hz
            go_wp2_with (first | (go_at_call 65; refine (begins_any _ _).mono ?_; rintro e w1 ⟨rfl, hb1⟩) | (go_at_call 66; refine (goesOn_any _ _).mono ?_; rintro e w2 ⟨rfl, hb2⟩))
            all_goals first
              | (go_ret
                 refine ⟨ret_bool ?_, Below.then hb (iter_on (unhide HK) hbr (by first | exact Below.then hb1 hb2 | exact hb1 | exact hb2)).2⟩
                 have key : nameFrom s (s.size + 1) 0 = false := by rw [unhide HF]; simp [*]
                 simp [nameB, key])
              | (obtain ⟨q1, q2⟩ := iter_on (unhide HK) hbr (by first | exact Below.then hb1 hb2 | exact hb1 | exact hb2)
                 exact ⟨⟨_, g, q1, q2, by rw [unhide HF]; simp_all, by omega⟩, by rw [iterPos_of q1, iterPos_of (unhide HK)]; omega⟩)
        · have hnx := fun ty => Lib.run_next_end_at (P := Tryz.prog) wr w'.heap.size s pos ty hk hp
          have HF := hide (hf.trans (nameFrom_end s f pos hp))
          clear hf
          go_wp2
          go_ret
          refine ⟨ret_bool ?_, Below.then hb hbr⟩
          have e0 : s.data.toList.isEmpty = false := by rw [← toList_data]; exact h0'
          simp only [nameB, e0, unhide HV, unhide HF, Bool.not_false, Bool.and_self]
theorem cut_le (s sep : List UInt8) : (Lib.cut s sep).1.length ≤ s.length ∧ (Lib.cut s sep).2.1.length ≤ s.length := by
  unfold Lib.cut
  split
  · simp only [List.length_take, List.length_drop]; omega
  · simp
theorem below_drewN (w : World) : ∀ n, Below w.heap.size w (w.drewN n)
  | 0 => Below.refl _ _
  | n + 1 => (below_drewN w n).drew
/-- A QName's prefix and local name. -/
def splitP (l : List UInt8) : List UInt8 := if (Lib.cut l [58]).2.2 then (Lib.cut l [58]).1 else []
def splitN (l : List UInt8) : List UInt8 := if (Lib.cut l [58]).2.2 then (Lib.cut l [58]).2.1 else l
def splitB (l : List UInt8) : Bool := (!(Lib.cut l [58]).2.2 || nameB ⟨(splitP l).toArray⟩) && nameB ⟨(splitN l).toArray⟩
def splitV (l : List UInt8) : Value :=
  if splitB l then .tuple #[.string ⟨(splitP l).toArray⟩, .string ⟨(splitN l).toArray⟩, .bool true] else .tuple #[.string ⟨#[]⟩, .string ⟨#[]⟩, .bool false]
theorem splitV_of {l p n : List UInt8} (hp : splitP l = p) (hn : splitN l = n) (hb : splitB l = true) : Ending.returned (.tuple #[.string ⟨p.toArray⟩, .string ⟨n.toArray⟩, .bool true]) = .returned (splitV l) := by
  unfold splitV; rw [if_pos hb, hp, hn]
theorem splitV_no {l : List UInt8} (hb : splitB l = false) : Ending.returned (.tuple #[.string ⟨#[]⟩, .string ⟨#[]⟩, .bool false]) = .returned (splitV l) := by
  unfold splitV; rw [if_neg (by rw [hb]; decide)]
set_option maxHeartbeats 1000000 in
theorem split_any (s : ByteArray) (w : World) (hs : s.size < 4294967281) (hE : Env w) :
    Calls Tryz.prog 84 #[.string s] w fun e w' => e = .returned (splitV s.data.toList) ∧ Below w.heap.size w w' := by
  obtain ⟨m, hm⟩ := hE.len
  have HE := hide hE
  have HM := hide hm
  clear hE hm
  have hcl := cut_le s.data.toList [58]
  have hl' : s.data.toList.length = s.size := rfl
  have h63 : (2 : Nat) ^ 63 - 1 = 9223372036854775807 := by decide
  go_enter Tryz.func84, Tryz.ntmps84
  go_wp2_with fail
  refine (Tryz.strings_Cut s ⟨#[58]⟩ m _ hs (unhide HM)).mono ?_
  rintro e w0 ⟨rfl, nd, hw0⟩
  have hb0 : Below w.heap.size w w0 := by rw [hw0]; exact below_drewN w nd
  clear hw0
  have HE0 := hide ((unhide HE).below hb0)
  have hsp : splitP s.data.toList = if (Lib.cut s.data.toList [58]).2.2 then (Lib.cut s.data.toList [58]).1 else [] := rfl
  have hsn : splitN s.data.toList = if (Lib.cut s.data.toList [58]).2.2 then (Lib.cut s.data.toList [58]).2.1 else s.data.toList := rfl
  have hsb : splitB s.data.toList = ((!(Lib.cut s.data.toList [58]).2.2 || nameB ⟨(splitP s.data.toList).toArray⟩) && nameB ⟨(splitN s.data.toList).toArray⟩) := rfl
  rw [show (ByteArray.mk #[58]).data.toList = [58] from rfl]
  generalize Lib.cut s.data.toList [58] = c at *
  obtain ⟨p, n, two⟩ := c
  obtain ⟨hcp, hcn⟩ := hcl
  simp only at hcp hcn
  cases two
  · simp only [Bool.not_false, Bool.true_or, Bool.true_and] at hsp hsn hsb
    rw [if_neg (by decide)] at hsp hsn
    rw [hsn] at hsb
    have HSP := hide hsp
    have HSN := hide hsn
    have HSB := hide hsb
    clear hsp hsn hsb
    go_wp2_with fail
    refine (isName_any s _ (by unfold maxLen; omega) (unhide HE0)).mono ?_
    rintro e w1 ⟨rfl, hb1⟩
    cases hn : nameB s
    · have HN := hide hn
      clear hn
      go_wp2
      go_ret3
      exact ⟨splitV_no (by rw [unhide HSB]; exact unhide HN), Below.then hb0 hb1⟩
    · have HN := hide hn
      clear hn
      go_wp2
      go_ret3
      exact ⟨splitV_of (unhide HSP) (unhide HSN) (by rw [unhide HSB]; exact unhide HN), Below.then hb0 hb1⟩
  · rw [if_pos rfl] at hsp hsn
    simp only [Bool.not_true, Bool.false_or] at hsb
    rw [hsp, hsn] at hsb
    have HSP := hide hsp
    have HSN := hide hsn
    have HSB := hide hsb
    clear hsp hsn hsb
    go_wp2_with fail
    refine (isName_any ⟨p.toArray⟩ _ (by unfold maxLen; rw [size_mk]; omega) (unhide HE0)).mono ?_
    rintro e w1 ⟨rfl, hb1⟩
    have HE1 := hide ((unhide HE0).below hb1)
    cases hn : nameB ⟨p.toArray⟩
    · have HN := hide hn
      clear hn
      go_wp2
      go_ret3
      exact ⟨splitV_no (by rw [unhide HSB, unhide HN]; rfl), Below.then hb0 hb1⟩
    · have HN := hide hn
      clear hn
      go_wp2_with fail
      refine (isName_any ⟨n.toArray⟩ _ (by unfold maxLen; rw [size_mk]; omega) (unhide HE1)).mono ?_
      rintro e w2 ⟨rfl, hb2⟩
      cases hn2 : nameB ⟨n.toArray⟩
      · have HN2 := hide hn2
        clear hn2
        go_wp2
        go_ret3
        exact ⟨splitV_no (by rw [unhide HSB, unhide HN, unhide HN2]; rfl), Below.then hb0 (Below.then hb1 hb2)⟩
      · have HN2 := hide hn2
        clear hn2
        go_wp2
        go_ret3
        exact ⟨splitV_of (unhide HSP) (unhide HSN) (by rw [unhide HSB, unhide HN, unhide HN2]; rfl), Below.then hb0 (Below.then hb1 hb2)⟩
end Go.Proofs.YtkklapoceknbcaaGreatDoor
/- Rows of bytes that a call owns: what stays, what they are as a text. -/
namespace Go.Proofs.YtkklapoceknbcaaGreatDoor
open Go.RowKit
theorem owns_below {w w' : World} {base : Nat} {e : TypeId} {size : Nat} {v : Value} {n : Nat} {xs : List Value} (h : w.ownsRow base e size v n xs) (hb : Below w.heap.size w w') : w'.ownsRow base e size v n xs := by
  refine ⟨h.1, ?_⟩
  rcases h.2 with h | ⟨g, cap, cur, h1, h2, h3, h4⟩
  · exact .inl h
  · exact .inr ⟨g, cap, cur, h1, h2, block_below h3 hb, h4⟩
theorem owns_ge {w : World} {base : Nat} {e : TypeId} {size : Nat} {v : Value} {n : Nat} {xs : List Value} (h : w.ownsRow base e size v n xs) : ∀ k, v.ownBlock = some k → base ≤ k := by
  intro k hk
  rcases h.2 with ⟨rfl, _⟩ | ⟨g, cap, cur, rfl, h2, _⟩
  · simp [Value.ownBlock] at hk
  · simp [Value.ownBlock] at hk; omega
theorem owns_slice {w : World} {base : Nat} {e : TypeId} {size : Nat} {v : Value} {n : Nat} {xs : List Value} (h : w.ownsRow base e size v n xs) : ∃ a c, v = .slice a n c := by
  rcases h.2 with ⟨rfl, h0⟩ | ⟨g, cap, cur, rfl, _⟩
  · exact ⟨none, 0, by rw [h0]⟩
  · exact ⟨_, _, rfl⟩
def byteCells (l : List UInt8) : List Value := l.map fun c => Value.int .u8 (c.toNat : Int)
theorem byteCells_append (l m : List UInt8) : byteCells (l ++ m) = byteCells l ++ byteCells m := by simp [byteCells]
theorem conv_owned {w : World} {base : Nat} {v : Value} {l : List UInt8} (h : w.ownsRow base 5 1 v l.length (byteCells l)) :
    (convert 43 9 v).run Tryz.prog w = .ok (.string ⟨l.toArray⟩) w := by
  rcases h.2 with ⟨rfl, h0⟩ | ⟨g, cap, cur, rfl, _⟩
  · rw [run_convert_bytes_nil _ 43 5 Tryz.underlying43 Tryz.underlying5 _ _ _ Tryz.underlying9]
    have : l = [] := List.length_eq_zero_iff.1 h0
    subst this
    rfl
  · refine (run_convert_bytes_arg _ 43 5 Tryz.underlying43 Tryz.underlying5 g 0 l.length cap (l.map fun c => (c.toNat : Int)) (by simp) ?_ 9 Tryz.underlying9).trans ?_
    · intro i hi
      rw [Nat.zero_add, h.cellAt i (by omega)]
      simp [byteCells, hi]
    · congr 2
      unfold strOfNums
      congr 2
      rw [List.map_map]
      have : ((fun n : Int => UInt8.ofNat n.toNat) ∘ fun c : UInt8 => (c.toNat : Int)) = id := by
        funext c
        simp
      rw [this, List.map_id]
end Go.Proofs.YtkklapoceknbcaaGreatDoor
/- Rows of bytes that a call owns or has made of a constant: two bytes more. -/
namespace Go.Proofs.YtkklapoceknbcaaGreatDoor
open Go.RowKit
/-- A slice of bytes of the call's own: a row of its own, or a full one made of a constant. -/
def RowB (w : World) (base : Nat) (v : Value) (l : List UInt8) : Prop :=
  w.ownsRow base 5 1 v l.length (byteCells l) ∨ ∃ g fz, v = .slice (some ⟨g, 0, none⟩) l.length l.length ∧ base ≤ g ∧ l ≠ [] ∧ w.heap[g]? = some (.cells (byteCells l).toArray 5 fz)
/-- Every block but one stands. -/
def Kept (w w' : World) (row : Option Nat) : Prop := ∀ k o, w.heap[k]? = some o → some k ≠ row → w'.heap[k]? = some o
theorem kept_grown {w w' : World} {o : Obj} {row : Option Nat} (h : (w.alloc o).grownBy w' row) : Kept w w' row := fun k x hk hr => by
  have hlt := (Array.getElem?_eq_some_iff.1 hk).1
  rw [h.block k (by simp; omega) hr, Lib.alloc_old w o k hlt]; exact hk
theorem kept_none {w w' : World} {o : Obj} (h : (w.alloc o).grownBy w' none) (row : Option Nat) : Kept w w' row := fun k x hk _ => kept_grown h k x hk (by simp)
theorem row_block {w : World} {base : Nat} {v : Value} {l : List UInt8} (h : RowB w base v l) : ∀ k, v.ownBlock = some k → base ≤ k ∧ ∃ c fz, w.heap[k]? = some (.cells c 5 fz) := by
  intro k hk
  rcases h with h | ⟨g, fz, rfl, hb, _, hg⟩
  · rcases h.2 with ⟨rfl, _⟩ | ⟨g, cap, cur, rfl, h2, h3, _⟩
    · simp [Value.ownBlock] at hk
    · simp [Value.ownBlock] at hk; subst hk; exact ⟨h2, _, _, h3⟩
  · simp [Value.ownBlock] at hk; subst hk; exact ⟨hb, _, _, hg⟩
theorem row_slice {w : World} {base : Nat} {v : Value} {l : List UInt8} (h : RowB w base v l) : ∃ a c, v = .slice a l.length c := by
  rcases h with h | ⟨g, fz, rfl, _⟩
  · exact owns_slice h
  · exact ⟨_, _, rfl⟩
theorem cells_full {w : World} {g : Nat} {l : List UInt8} {fz : Nat × Nat} (h : w.heap[g]? = some (.cells (byteCells l).toArray 5 fz)) (j : Nat) : w.cell? ⟨g, j, none⟩ = (byteCells l)[j]? := by
  rw [cell_of_row w g j _ _ _ h]; simp
theorem conv_row {w : World} {base : Nat} {v : Value} {l : List UInt8} (h : RowB w base v l) : (convert 43 9 v).run Tryz.prog w = .ok (.string ⟨l.toArray⟩) w := by
  rcases h with h | ⟨g, fz, rfl, _, _, hg⟩
  · exact conv_owned h
  · refine (run_convert_bytes_arg _ 43 5 Tryz.underlying43 Tryz.underlying5 g 0 l.length l.length (l.map fun c => (c.toNat : Int)) (by simp) ?_ 9 Tryz.underlying9).trans ?_
    · intro i hi
      rw [Nat.zero_add, cells_full hg]
      simp [byteCells, hi]
    · congr 2
      unfold strOfNums
      congr 2
      rw [List.map_map]
      have : ((fun n : Int => UInt8.ofNat n.toNat) ∘ fun c : UInt8 => (c.toNat : Int)) = id := by
        funext c
        simp
      rw [this, List.map_id]
theorem row_below {w w' : World} {base : Nat} {v : Value} {l : List UInt8} (h : RowB w base v l) (hk : Kept w w' none) : RowB w' base v l := by
  rcases h with h | ⟨g, fz, h1, h2, h3, hg⟩
  · refine .inl ⟨h.1, ?_⟩
    rcases h.2 with h | ⟨g, cap, cur, h1, h2, h3, h4⟩
    · exact .inl h
    · exact .inr ⟨g, cap, cur, h1, h2, hk g _ h3 (by simp), h4⟩
  · exact .inr ⟨g, fz, h1, h2, h3, hk g _ hg (by simp)⟩
theorem kept_below {w w' : World} (h : Below w.heap.size w w') : Kept w w' none := fun _ _ hk _ => block_below hk h
theorem below_kept {w w' : World} {base : Nat} {o : Obj} {row : Option Nat} (h : (w.alloc o).grownBy w' row) (hb : base ≤ w.heap.size) (hr : ∀ k, row = some k → base ≤ k) : Below base w w' :=
  Below.grown ((Below.refl base w).alloc hb o) h (by simp; omega) hr
def unitB (u : Nat) : List UInt8 := [UInt8.ofNat (u / 256), UInt8.ofNat (u % 256)]
theorem unit_cells (l : List UInt8) (u : Nat) (hu : u < 65536) : byteCells (l ++ unitB u) = byteCells l ++ [.int .u8 ((u : Int) / 256), .int .u8 ((u : Int) % 256)] := by
  rw [byteCells_append]
  congr 1
  have a : (UInt8.ofNat (u / 256)).toNat = u / 256 := by rw [UInt8.toNat_ofNat']; omega
  have b : (UInt8.ofNat (u % 256)).toNat = u % 256 := by rw [UInt8.toNat_ofNat']; omega
  simp [byteCells, unitB, a, b]
theorem news_cells (w : World) (cs : List Value) (t : TypeId) : ∀ j u, cs[j]? = some u → (w.alloc (.cells cs.toArray t)).cell? ((⟨w.heap.size, 0, none⟩ : Addr).add j) = some u := by
  intro j u h
  have e : (⟨w.heap.size, 0, none⟩ : Addr).add j = ⟨w.heap.size, j, none⟩ := by unfold Addr.add; split <;> simp_all
  rw [e, World.cell?_alloc_new]
  simpa using h
end Go.Proofs.YtkklapoceknbcaaGreatDoor
/- A text in UTF-16: xchar's splitPair and encodeWide. -/
namespace Go.Proofs.YtkklapoceknbcaaGreatDoor
open Go.RowKit
theorem sum_const (a b : Int) (ha : 0 ≤ a) (ha' : a < 1048576) (hb : 0 ≤ b) (hb' : b < 1048576) (w : World) :
    (binOp .add 97 (.complex .f64 4677832637954392064 4677973375442747392) (.complex .f64 (floatOfInt .f64 a) (floatOfInt .f64 b))).run Tryz.prog w = .ok (.complex .f64 (floatOfInt .f64 (55296 + a)) (floatOfInt .f64 (56320 + b))) w := by
  refine run_complex_sum w .add (.inl rfl) _ _ _ _ _ _ _ _ ?_
  have e1 : floatOfInt .f64 55296 = 4677832637954392064 := by decide +kernel
  have e2 : floatOfInt .f64 56320 = 4677973375442747392 := by decide +kernel
  unfold cSumBits
  rw [← e1, ← e2, FloatInt.add_nearest 55296 a (by decide) (by omega) (by omega), FloatInt.add_nearest 56320 b (by decide) (by omega) (by omega)]
  rfl
theorem mask10 (x : Int) (h0 : 0 ≤ x) (h1 : x < 2147483648) : bits .and .i32 x 1023 = x % 1024 := bits_mask .i32 31 (by decide) wraps_i32 10 (by decide) x h0 h1
/-- A character in UTF-16, the higher byte first. -/
def wideR (r : Nat) : List UInt8 := if r < 65536 then unitB r else unitB (55296 + (r - 65536) / 1024) ++ unitB (56320 + (r - 65536) % 1024)
def wideFrom (s : ByteArray) : Nat → Nat → List UInt8
  | 0, _ => []
  | f + 1, pos => if pos < s.size then wideR (Utf8.decode s pos).1 ++ wideFrom s f (pos + (Utf8.decode s pos).2) else []
def encW (s : ByteArray) : List UInt8 := [254, 255] ++ wideFrom s (s.size + 1) 0
theorem wideFrom_step (s : ByteArray) (f pos : Nat) (hp : pos < s.size) (hb : s.size < pos + f) : ∃ g, f = g + 1 ∧ wideFrom s f pos = wideR (Utf8.decode s pos).1 ++ wideFrom s g (pos + (Utf8.decode s pos).2) := by
  cases f with
  | zero => omega
  | succ g => exact ⟨g, rfl, by rw [wideFrom, if_pos hp]⟩
theorem wideFrom_end (s : ByteArray) (f pos : Nat) (hp : ¬ pos < s.size) : wideFrom s f pos = [] := by
  cases f with
  | zero => rfl
  | succ g => rw [wideFrom, if_neg hp]
theorem rune_le (s : ByteArray) (pos : Nat) : (Utf8.decode s pos).1 ≤ 1114111 := by
  have h := Lib.decodeL_rune (s.data.toList.drop pos)
  rw [Lib.decodeL_drop] at h
  exact h
theorem kept_alloc (w : World) (o : Obj) (row : Option Nat) : Kept w (w.alloc o) row := fun k x hk _ => by
  rw [Lib.alloc_old w o k (Array.getElem?_eq_some_iff.1 hk).1]; exact hk
theorem real_int (a : Int) (h1 : 0 ≤ a) (h2 : a < 65536) (w : World) : (convert 116 21 (.float .f64 (floatOfInt .f64 a))).run Tryz.prog w = .ok (.int .i32 a) w := by
  exact run_convert_float_int w 116 21 .f64 .i32 _ a (by kernel_rfl) Tryz.underlying21 (FloatInt.toIntVal_nearest a (by omega) (by omega))
theorem row_iter {w : World} {base it : Nat} {v : Value} {l : List UInt8} {s : ByteArray} {p p' : Nat} (h : RowB w base v l) (hk : w.heap[it]? = some (.stringIter s p)) : RowB (w.iterAt it s p') base v l := by
  have ne : ∀ k c t fz, w.heap[k]? = some (.cells c t fz) → k ≠ it := fun k c t fz hc e => by rw [e, hk] at hc; cases hc
  rcases h with h | ⟨g, fz, h1, h2, h3, hg⟩
  · refine .inl ⟨h.1, ?_⟩
    rcases h.2 with h | ⟨g, cap, cur, h1, h2, h3, h4⟩
    · exact .inl h
    · exact .inr ⟨g, cap, cur, h1, h2, by rw [Lib.iterAt_other w it g s p' (ne g _ _ _ h3)]; exact h3, h4⟩
  · exact .inr ⟨g, fz, h1, h2, h3, by rw [Lib.iterAt_other w it g s p' (ne g _ _ _ hg)]; exact hg⟩
theorem own_ne {w : World} {base it : Nat} {v : Value} {l : List UInt8} {s : ByteArray} {p : Nat} (h : RowB w base v l) (hk : w.heap[it]? = some (.stringIter s p)) : some it ≠ v.ownBlock := by
  intro e
  obtain ⟨_, c, fz, hc⟩ := row_block h it e.symm
  rw [hk] at hc
  cases hc
theorem wideR_len (r : Nat) : (wideR r).length ≤ 4 := by
  unfold wideR; split <;> simp [unitB]
end Go.Proofs.YtkklapoceknbcaaGreatDoor
/- UTF-16 is read: xchar's unitOf, isPair, joinPair, firstWide and decodeWide. -/
namespace Go.Proofs.YtkklapoceknbcaaGreatDoor
open Go.RowKit
/-- The unit of two bytes. -/
def unitN (s : ByteArray) (pos : Nat) (high : Bool) : Nat :=
  if high then (s.get! (pos + 1)).toNat * 256 + (s.get! pos).toNat else (s.get! pos).toNat * 256 + (s.get! (pos + 1)).toNat
def highV (high : Bool) : Value := .int .i64 (if high then 1 else 0)
theorem get_at2 (s : ByteArray) (i : Nat) (h : i < s.size) : s[i] = s.get! i := by
  show s.data[i] = s.data[i]!
  rw [getElem!_pos s.data i h]
theorem unitN_lt (s : ByteArray) (pos : Nat) (high : Bool) : unitN s pos high < 65536 := by
  have a := (s.get! pos).toNat_lt
  have b := (s.get! (pos + 1)).toNat_lt
  unfold unitN
  split <;> omega
def pairB (x y : Nat) : Bool := (decide (55296 ≤ x) && decide (x ≤ 56319)) && (decide (56320 ≤ y) && decide (y ≤ 57343))
theorem wB_nat (x lo hi fa fb : Nat) (h1 : floatOfInt .f64 (lo : Int) = fa) (h2 : floatOfInt .f64 (hi : Int) = fb) (hl : lo < 2 ^ 53) (hh : hi < 2 ^ 53) (hx : x < 2 ^ 53) :
    wB (x : Int) fa fb = (decide (lo ≤ x) && decide (x ≤ hi)) := by
  rw [wB_eq (x : Int) lo hi fa fb h1 h2 (by omega) (by omega) (by omega)]
  simp
theorem lead_eq (x : Nat) (h : x < 65536) : wB (x : Int) 4677832637954392064 4677973238003793920 = (decide (55296 ≤ x) && decide (x ≤ 56319)) :=
  wB_nat x 55296 56319 _ _ (by decide +kernel) (by decide +kernel) (by decide) (by decide) (by omega)
theorem trail_eq (x : Nat) (h : x < 65536) : wB (x : Int) 4677973375442747392 4678113975492149248 = (decide (56320 ≤ x) && decide (x ≤ 57343)) :=
  wB_nat x 56320 57343 _ _ (by decide +kernel) (by decide +kernel) (by decide) (by decide) (by omega)
theorem surr_eq (x : Nat) (h : x < 65536) : wB (x : Int) 4677832637954392064 4678113975492149248 = (decide (55296 ≤ x) && decide (x ≤ 57343)) :=
  wB_nat x 55296 57343 _ _ (by decide +kernel) (by decide +kernel) (by decide) (by decide) (by omega)
theorem sub_const (x y : Nat) (h1 : 55296 ≤ x) (h2 : x < 65536) (h3 : 56320 ≤ y) (h4 : y < 65536) (w : World) :
    (binOp .sub 97 (.complex .f64 (floatOfInt .f64 (x : Int)) (floatOfInt .f64 (y : Int))) (.complex .f64 4677832637954392064 4677973375442747392)).run Tryz.prog w = .ok (.complex .f64 (floatOfInt .f64 ((x : Int) - 55296)) (floatOfInt .f64 ((y : Int) - 56320))) w := by
  refine run_complex_sum w .sub (.inr rfl) _ _ _ _ _ _ _ _ ?_
  have e1 : floatOfInt .f64 55296 = 4677832637954392064 := by decide +kernel
  have e2 : floatOfInt .f64 56320 = 4677973375442747392 := by decide +kernel
  unfold cSumBits
  rw [← e1, ← e2, FloatInt.sub_nearest x 55296 (by omega) (by decide) (by omega), FloatInt.sub_nearest y 56320 (by omega) (by decide) (by omega)]
  rfl
/-- The first character of UTF-16 from a place on, and how many bytes it takes; 0, if none can be read. -/
def wideAt (s : ByteArray) (pos : Nat) (high : Bool) : Nat × Nat :=
  if s.size < pos + 2 then (0, 0)
  else if (decide (55296 ≤ unitN s pos high) && decide (unitN s pos high ≤ 57343)) = false then (unitN s pos high, 2)
  else if s.size < pos + 4 then (0, 0)
  else if pairB (unitN s pos high) (unitN s (pos + 2) high) = false then (0, 0)
  else (65536 + (unitN s pos high - 55296) * 1024 + (unitN s (pos + 2) high - 56320), 4)
theorem ret_wide {x : Nat × Nat} {a b : Nat} (h : x = (a, b)) : Ending.returned (.tuple #[.int .i32 (a : Int), .int .i64 (b : Int)]) = .returned (.tuple #[.int .i32 (x.1 : Int), .int .i64 (x.2 : Int)]) := by rw [h]
theorem get_list (s : ByteArray) (i : Nat) (h : i < s.size) : s.get! i = s.data.toList[i]'h := by
  show s.data[i]! = _
  rw [getElem!_pos s.data i h]; rfl
theorem get_tail (s : ByteArray) (p i : Nat) (hp : p ≤ s.size) : (s.extract p s.size).get! i = s.get! (p + i) := by
  have z : (s.extract p s.size).size = s.size - p := by rw [ByteArray.size_extract]; omega
  by_cases hi : i < s.size - p
  · rw [get_list _ i (by omega), get_list s (p + i) (by omega)]
    simp [ByteArray.data_extract]
  · have a : (s.extract p s.size).get! i = default := by
      show (s.extract p s.size).data[i]! = _
      exact getElem!_neg _ _ (by show ¬ i < (s.extract p s.size).size; omega)
    have b : s.get! (p + i) = default := by
      show s.data[p + i]! = _
      exact getElem!_neg _ _ (by show ¬ p + i < s.size; omega)
    rw [a, b]
theorem unitN_tail (s : ByteArray) (p k : Nat) (high : Bool) (hp : p ≤ s.size) : unitN (s.extract p s.size) k high = unitN s (p + k) high := by
  unfold unitN
  rw [get_tail s p k hp, get_tail s p (k + 1) hp, Nat.add_assoc]
theorem wideAt_tail (s : ByteArray) (p : Nat) (high : Bool) (hp : p ≤ s.size) : wideAt (s.extract p s.size) 0 high = wideAt s p high := by
  have z : (s.extract p s.size).size = s.size - p := by rw [ByteArray.size_extract]; omega
  unfold wideAt
  rw [z, unitN_tail s p 0 high hp, unitN_tail s p (0 + 2) high hp]
  simp only [Nat.add_zero, Nat.zero_add]
  have c1 : (s.size - p < 2) = (s.size < p + 2) := propext ⟨fun _ => by omega, fun _ => by omega⟩
  have c2 : (s.size - p < 4) = (s.size < p + 4) := propext ⟨fun _ => by omega, fun _ => by omega⟩
  simp only [c1, c2]
end Go.Proofs.YtkklapoceknbcaaGreatDoor
/- UTF-16 is read, character by character: xchar's decodeWide. -/
namespace Go.Proofs.YtkklapoceknbcaaGreatDoor
open Go.RowKit
/-- A character's bytes in UTF-8. -/
def runeB (r : Nat) : List UInt8 := (Lib.encodeRuneZ (r : Int)).map fun z => UInt8.ofNat z.toNat
theorem runeZ_range (r : Nat) : ∀ z ∈ Lib.encodeRuneZ (r : Int), 0 ≤ z ∧ z < 256 := by
  intro z hz
  unfold Lib.encodeRuneZ at hz
  repeat' split at hz
  all_goals (simp at hz; omega)
theorem runeCells_eq (r : Nat) : Lib.runeCells (r : Int) = byteCells (runeB r) := by
  unfold Lib.runeCells byteCells runeB
  rw [List.map_map]
  apply List.map_congr_left
  intro z hz
  have h := runeZ_range r z hz
  show Value.int .u8 z = Value.int .u8 ((UInt8.ofNat z.toNat).toNat : Int)
  rw [UInt8.toNat_ofNat']
  congr 1
  omega
theorem runeB_len (r : Nat) : (runeB r).length ≤ 4 := by
  unfold runeB Lib.encodeRuneZ
  repeat' split
  all_goals simp
def decFrom (s : ByteArray) (high : Bool) : Nat → Nat → List UInt8 → List UInt8 × Int × Int
  | 0, _, acc => (acc, 0, 0)
  | f + 1, pos, acc => if pos < s.size then
      (if (wideAt s pos high).2 = 0 then ([], 3, (pos : Int))
       else if charB (wideAt s pos high).1 = false then ([], 4, (pos : Int))
       else decFrom s high f (pos + (wideAt s pos high).2) (acc ++ runeB (wideAt s pos high).1))
    else (acc, 0, 0)
theorem decFrom_step (s : ByteArray) (high : Bool) (f pos : Nat) (acc : List UInt8) (hp : pos < s.size) (hb : s.size < pos + f) : ∃ g, f = g + 1 ∧ decFrom s high f pos acc =
    (if (wideAt s pos high).2 = 0 then ([], 3, (pos : Int))
       else if charB (wideAt s pos high).1 = false then ([], 4, (pos : Int))
       else decFrom s high g (pos + (wideAt s pos high).2) (acc ++ runeB (wideAt s pos high).1)) := by
  cases f with
  | zero => omega
  | succ g => exact ⟨g, rfl, by rw [decFrom, if_pos hp]⟩
theorem decFrom_end (s : ByteArray) (high : Bool) (f pos : Nat) (acc : List UInt8) (hp : ¬ pos < s.size) : decFrom s high f pos acc = (acc, 0, 0) := by
  cases f with
  | zero => rfl
  | succ g => rw [decFrom, if_neg hp]
def decW (s : ByteArray) (high : Bool) : List UInt8 × Int × Int := decFrom s high (s.size + 1) 2 []
def decV (x : List UInt8 × Int × Int) : Value := .tuple #[.string ⟨x.1.toArray⟩, .int .i64 x.2.1, .int .i64 x.2.2]
theorem ret_dec {x : List UInt8 × Int × Int} {t : List UInt8} {a b : Int} (h : x = (t, a, b)) : Ending.returned (.tuple #[.string ⟨t.toArray⟩, .int .i64 a, .int .i64 b]) = .returned (decV x) := by rw [h]; rfl
theorem wideAt_le (s : ByteArray) (pos : Nat) (high : Bool) : (wideAt s pos high).1 ≤ 20000000 ∧ ((wideAt s pos high).2 = 0 ∨ (2 ≤ (wideAt s pos high).2 ∧ pos + (wideAt s pos high).2 ≤ s.size)) := by
  have h1 := unitN_lt s pos high
  have h2 := unitN_lt s (pos + 2) high
  unfold wideAt
  split
  · simp
  · split
    · simp only; omega
    · split
      · simp
      · split
        · simp
        · simp only; omega
/-- .. with the line ends made one. -/
def decEnd (x : List UInt8 × Int × Int) : Value :=
  if x.2.1 = 0 then .tuple #[.string ⟨(endsL x.1).toArray⟩, .int .i64 0, .int .i64 0] else .tuple #[.string ⟨#[]⟩, .int .i64 x.2.1, .int .i64 x.2.2]
/-- What Decode tells of bytes, whatever they are. -/
def decodeAll (s : ByteArray) : Value :=
  if 32768 < s.size then .tuple #[.string ⟨#[]⟩, .int .i64 6, .int .i64 0]
  else if Lib.hasPrefix s.data.toList [254, 255] then decEnd (decW s false)
  else if Lib.hasPrefix s.data.toList [255, 254] then decEnd (decW s true)
  else decodedV (narrowL s.data.toList) s.size
end Go.Proofs.YtkklapoceknbcaaGreatDoor
/- What is encoded is decoded, and what is decoded is encoded: plain lemmas. -/
namespace Go.Proofs.YtkklapoceknbcaaGreatDoor
open Go.RowKit
def okR (r : Nat) : Prop := r < 55296 ∨ (57344 ≤ r ∧ r ≤ 1114111)
theorem runeB_one {r : Nat} (h : r < 128) : runeB r = [UInt8.ofNat r] := by
  unfold runeB; rw [Lib.encodeRuneZ_one (by omega) (by omega)]; rfl
theorem runeB_two {r : Nat} (h : 128 ≤ r) (h' : r < 2048) : runeB r = [UInt8.ofNat (192 + r / 64), UInt8.ofNat (128 + r % 64)] := by
  unfold runeB; rw [Lib.encodeRuneZ_two (by omega) (by omega)]
  simp only [List.map_cons, List.map_nil]
  rw [show (192 + (r : Int) / 64).toNat = 192 + r / 64 by omega, show (128 + (r : Int) % 64).toNat = 128 + r % 64 by omega]
theorem runeB_three {r : Nat} (h : 2048 ≤ r) (h' : r < 65536) (ho : okR r) : runeB r = [UInt8.ofNat (224 + r / 4096), UInt8.ofNat (128 + r / 64 % 64), UInt8.ofNat (128 + r % 64)] := by
  unfold okR at ho
  unfold runeB; rw [Lib.encodeRuneZ_three (by omega)]
  simp only [List.map_cons, List.map_nil]
  rw [show (224 + (r : Int) / 4096).toNat = 224 + r / 4096 by omega, show (128 + (r : Int) / 64 % 64).toNat = 128 + r / 64 % 64 by omega, show (128 + (r : Int) % 64).toNat = 128 + r % 64 by omega]
theorem runeB_four {r : Nat} (h : 65536 ≤ r) (h' : r ≤ 1114111) : runeB r = [UInt8.ofNat (240 + r / 262144), UInt8.ofNat (128 + r / 4096 % 64), UInt8.ofNat (128 + r / 64 % 64), UInt8.ofNat (128 + r % 64)] := by
  unfold runeB; rw [Lib.encodeRuneZ_four (by omega) (by omega)]
  simp only [List.map_cons, List.map_nil]
  rw [show (240 + (r : Int) / 262144).toNat = 240 + r / 262144 by omega, show (128 + (r : Int) / 4096 % 64).toNat = 128 + r / 4096 % 64 by omega, show (128 + (r : Int) / 64 % 64).toNat = 128 + r / 64 % 64 by omega, show (128 + (r : Int) % 64).toNat = 128 + r % 64 by omega]
theorem u8_nat {n : Nat} (h : n < 256) : (UInt8.ofNat n).toNat = n := by rw [UInt8.toNat_ofNat']; omega
set_option maxHeartbeats 2000000 in
/-- What is encoded is decoded. -/
theorem dec_rune (r : Nat) (ho : okR r) (t : List UInt8) : Lib.decodeL (runeB r ++ t) = (r, (runeB r).length) := by
  rw [Lib.decodeL_N]
  have ho' := ho
  unfold okR at ho'
  by_cases h1 : r < 128
  · rw [runeB_one h1]
    simp only [List.cons_append, List.nil_append, List.getD_cons_zero, u8_nat (show r < 256 by omega), Lib.decodeN, if_pos h1, List.length_cons, List.length_nil]
  · by_cases h2 : r < 2048
    · rw [runeB_two (by omega) h2]
      simp only [List.cons_append, List.nil_append, List.getD_cons_zero, List.getD_cons_succ, List.length_cons, List.length_nil, u8_nat (show 192 + r / 64 < 256 by omega), u8_nat (show 128 + r % 64 < 256 by omega), Lib.decodeN]
      rw [if_neg (by omega), if_pos ⟨by omega, by omega, by omega⟩, if_pos (by omega)]
      apply Prod.ext <;> simp only <;> omega
    · by_cases h3 : r < 65536
      · rw [runeB_three (by omega) h3 ho]
        simp only [List.cons_append, List.nil_append, List.getD_cons_zero, List.getD_cons_succ, List.length_cons, List.length_nil, u8_nat (show 224 + r / 4096 < 256 by omega), u8_nat (show 128 + r / 64 % 64 < 256 by omega), u8_nat (show 128 + r % 64 < 256 by omega), Lib.decodeN]
        rw [if_neg (by omega), if_neg (by omega), if_pos ⟨by omega, ⟨by omega, by omega⟩, by omega, by omega⟩, if_pos (by omega)]
        apply Prod.ext <;> simp only <;> omega
      · rw [runeB_four (by omega) (by omega)]
        simp only [List.cons_append, List.nil_append, List.getD_cons_zero, List.getD_cons_succ, List.length_cons, List.length_nil, u8_nat (show 240 + r / 262144 < 256 by omega), u8_nat (show 128 + r / 4096 % 64 < 256 by omega), u8_nat (show 128 + r / 64 % 64 < 256 by omega), u8_nat (show 128 + r % 64 < 256 by omega), Lib.decodeN]
        rw [if_neg (by omega), if_neg (by omega), if_neg (by omega), if_pos ⟨by omega, ⟨by omega, by omega⟩, ⟨by omega, by omega⟩, by omega, by omega⟩, if_pos (by omega)]
        apply Prod.ext <;> simp only <;> omega
theorem u8_back {c : UInt8} {n : Nat} (h : c.toNat = n) : c = UInt8.ofNat n := by
  rw [← h]; simp
set_option maxHeartbeats 4000000 in
/-- What is decoded, and is no fault, is encoded as it was. -/
theorem rune_dec (l : List UInt8) (hl : l ≠ []) (hb : ¬ ((Lib.decodeL l).1 = 65533 ∧ (Lib.decodeL l).2 = 1)) : okR (Lib.decodeL l).1 ∧ l = runeB (Lib.decodeL l).1 ++ l.drop (Lib.decodeL l).2 := by
  rw [Lib.decodeL_N] at *
  match l, hl with
  | b0 :: t, _ =>
  have c0 := b0.toNat_lt
  simp only [List.getD_cons_zero] at *
  by_cases h0 : b0.toNat < 128
  · have e : Lib.decodeN (b0 :: t).length b0.toNat ((b0 :: t).getD 1 0).toNat ((b0 :: t).getD 2 0).toNat ((b0 :: t).getD 3 0).toNat = (b0.toNat, 1) := by rw [Lib.decodeN, if_pos h0]
    rw [e]
    refine ⟨.inl (by simp only; omega), ?_⟩
    simp only
    rw [runeB_one h0]
    simp
  · match t with
    | [] =>
      exfalso; apply hb
      simp only [List.length_cons, List.length_nil, Lib.decodeN]
      rw [if_neg h0, if_neg (by omega), if_neg (by omega), if_neg (by omega)]
      exact ⟨rfl, rfl⟩
    | b1 :: t =>
    have c1 := b1.toNat_lt
    simp only [List.getD_cons_zero, List.getD_cons_succ, List.length_cons] at *
    by_cases h1 : b0.toNat / 32 = 6 ∧ (1 < t.length + 1 + 1 ∧ b1.toNat / 64 = 2)
    · rw [Lib.decodeN, if_neg h0, if_pos h1] at *
      by_cases hv : b0.toNat % 32 * 64 + b1.toNat % 64 ≥ 128
      · rw [if_pos hv] at *
        refine ⟨.inl (by simp only; omega), ?_⟩
        simp only
        rw [runeB_two (by omega) (by omega), ← u8_back (show b0.toNat = _ by omega), ← u8_back (show b1.toNat = _ by omega)]
        rfl
      · rw [if_neg hv] at hb; exact absurd ⟨rfl, rfl⟩ hb
    · match t with
      | [] =>
        exfalso; apply hb
        simp only [List.length_nil, Lib.decodeN]
        rw [if_neg h0, if_neg (by simpa using h1), if_neg (by omega), if_neg (by omega)]
        exact ⟨rfl, rfl⟩
      | b2 :: t =>
      have c2 := b2.toNat_lt
      simp only [List.getD_cons_zero, List.getD_cons_succ, List.length_cons] at *
      by_cases h2 : b0.toNat / 16 = 14 ∧ (1 < t.length + 1 + 1 + 1 ∧ b1.toNat / 64 = 2) ∧ (2 < t.length + 1 + 1 + 1 ∧ b2.toNat / 64 = 2)
      · rw [Lib.decodeN, if_neg h0, if_neg h1, if_pos h2] at *
        split at hb
        · rename_i hv
          rw [if_pos hv]
          have ho : okR (b0.toNat % 16 * 4096 + b1.toNat % 64 * 64 + b2.toNat % 64) := by unfold okR; omega
          refine ⟨ho, ?_⟩
          simp only
          rw [runeB_three (by omega) (by omega) ho, ← u8_back (show b0.toNat = _ by omega), ← u8_back (show b1.toNat = _ by omega), ← u8_back (show b2.toNat = _ by omega)]
          rfl
        · exact absurd ⟨rfl, rfl⟩ hb
      · match t with
        | [] =>
          exfalso; apply hb
          simp only [List.length_nil, Lib.decodeN]
          rw [if_neg h0, if_neg (by simpa using h1), if_neg (by simpa using h2), if_neg (by omega)]
          exact ⟨rfl, rfl⟩
        | b3 :: t =>
        have c3 := b3.toNat_lt
        simp only [List.getD_cons_zero, List.length_cons] at *
        by_cases h3 : b0.toNat / 8 = 30 ∧ (1 < t.length + 1 + 1 + 1 + 1 ∧ b1.toNat / 64 = 2) ∧ (2 < t.length + 1 + 1 + 1 + 1 ∧ b2.toNat / 64 = 2) ∧ (3 < t.length + 1 + 1 + 1 + 1 ∧ b3.toNat / 64 = 2)
        · rw [Lib.decodeN, if_neg h0, if_neg h1, if_neg h2, if_pos h3] at *
          split at hb
          · rename_i hv
            rw [if_pos hv]
            have ho : okR (b0.toNat % 8 * 262144 + b1.toNat % 64 * 4096 + b2.toNat % 64 * 64 + b3.toNat % 64) := by unfold okR; omega
            refine ⟨ho, ?_⟩
            simp only
            rw [runeB_four (by omega) (by omega), ← u8_back (show b0.toNat = _ by omega), ← u8_back (show b1.toNat = _ by omega), ← u8_back (show b2.toNat = _ by omega), ← u8_back (show b3.toNat = _ by omega)]
            rfl
          · exact absurd ⟨rfl, rfl⟩ hb
        · exfalso; apply hb
          rw [Lib.decodeN, if_neg h0, if_neg h1, if_neg h2, if_neg h3]
          exact ⟨rfl, rfl⟩
theorem charR_ok {r : Nat} (h : charR (r : Int) = true) : okR r := by
  unfold charR at h
  unfold okR
  simp at h
  omega
theorem runeB_first {r : Nat} (ho : okR r) : ∃ c t, runeB r = c :: t ∧ c.toNat < 248 ∧ (c.toNat = 13 → r = 13) := by
  have ho' := ho
  unfold okR at ho'
  by_cases h1 : r < 128
  · exact ⟨_, _, runeB_one h1, by rw [u8_nat (by omega)]; omega, by rw [u8_nat (by omega)]; exact id⟩
  · by_cases h2 : r < 2048
    · exact ⟨_, _, runeB_two (by omega) h2, by rw [u8_nat (by omega)]; omega, by rw [u8_nat (by omega)]; omega⟩
    · by_cases h3 : r < 65536
      · exact ⟨_, _, runeB_three (by omega) h3 ho, by rw [u8_nat (by omega)]; omega, by rw [u8_nat (by omega)]; omega⟩
      · exact ⟨_, _, runeB_four (by omega) (by omega), by rw [u8_nat (by omega)]; omega, by rw [u8_nat (by omega)]; omega⟩
theorem runeB_no {r : Nat} (ho : okR r) (h : r ≠ 13) : ∀ c ∈ runeB r, c ≠ 13 := by
  have key : ∀ n : Nat, n < 256 → n ≠ 13 → UInt8.ofNat n ≠ 13 := by
    intro n hn h e
    have := congrArg UInt8.toNat e
    rw [u8_nat hn] at this
    exact h this
  have ho' := ho
  unfold okR at ho'
  by_cases h1 : r < 128
  · rw [runeB_one h1]; intro c hc; simp only [List.mem_cons, List.not_mem_nil, or_false] at hc; subst hc; exact key _ (by omega) h
  · by_cases h2 : r < 2048
    · rw [runeB_two (by omega) h2]; intro c hc; simp only [List.mem_cons, List.not_mem_nil, or_false] at hc
      rcases hc with rfl | rfl
      · exact key _ (by omega) (by omega)
      · exact key _ (by omega) (by omega)
    · by_cases h3 : r < 65536
      · rw [runeB_three (by omega) h3 ho]; intro c hc; simp only [List.mem_cons, List.not_mem_nil, or_false] at hc
        rcases hc with rfl | rfl | rfl
        · exact key _ (by omega) (by omega)
        · exact key _ (by omega) (by omega)
        · exact key _ (by omega) (by omega)
      · rw [runeB_four (by omega) (by omega)]; intro c hc; simp only [List.mem_cons, List.not_mem_nil, or_false] at hc
        rcases hc with rfl | rfl | rfl | rfl
        · exact key _ (by omega) (by omega)
        · exact key _ (by omega) (by omega)
        · exact key _ (by omega) (by omega)
        · exact key _ (by omega) (by omega)
/-- A text: characters that may be, one behind the other. -/
def Txt (l : List UInt8) : Prop := ∃ rs : List Nat, (∀ r ∈ rs, charR (r : Int) = true) ∧ l = rs.flatMap runeB
end Go.Proofs.YtkklapoceknbcaaGreatDoor
/- What is decoded of a text, byte by byte: plain lemmas. -/
namespace Go.Proofs.YtkklapoceknbcaaGreatDoor
open Go.RowKit
theorem get_data (s : ByteArray) (i : Nat) (h : i < s.size) : s.get! i = s.data.toList[i]'h := by
  show s.data[i]! = _
  rw [getElem!_pos s.data i h]; rfl
/-- What is decoded at a place: a byte below 128 is itself, of width 1; bytes behind the first are 128 or above; none lies beyond the end. -/
theorem decode_bytes (s : ByteArray) (pos : Nat) (hp : pos < s.size) :
    ((s.get! pos).toNat < 128 → Utf8.decode s pos = ((s.get! pos).toNat, 1)) ∧ (∀ k, 1 ≤ k → k < (Utf8.decode s pos).2 → 128 ≤ (s.get! (pos + k)).toNat) ∧ pos + (Utf8.decode s pos).2 ≤ s.size := by
  rw [Lib.decode_at]
  generalize (s.get! pos).toNat = b0
  generalize h1 : (s.get! (pos + 1)).toNat = b1
  generalize h2 : (s.get! (pos + 2)).toNat = b2
  generalize h3 : (s.get! (pos + 3)).toNat = b3
  refine ⟨fun h => by unfold Lib.decodeN; rw [if_pos h], fun k hk hk' => ?_, ?_⟩
  · have key : (k = 1 ∧ 128 ≤ b1) ∨ (k = 2 ∧ 128 ≤ b2) ∨ (k = 3 ∧ 128 ≤ b3) := by
      revert hk'
      unfold Lib.decodeN
      repeat' split
      all_goals (intro hk'; simp only at hk'; omega)
    rcases key with ⟨rfl, h⟩ | ⟨rfl, h⟩ | ⟨rfl, h⟩
    · rw [h1]; exact h
    · rw [h2]; exact h
    · rw [h3]; exact h
  · unfold Lib.decodeN
    repeat' split
    all_goals (simp only; omega)
end Go.Proofs.YtkklapoceknbcaaGreatDoor
/- Which characters may be: the reference's IsChar. -/
namespace Go.Proofs.YtkklapoceknbcaaGreatDoor
open Go.RowKit
set_option maxHeartbeats 400000 in
theorem refIsChar_any (r : Int) (w : World) :
    Calls Tryz.prog 45 #[.int .i32 r] w fun e w' => e = .returned (.bool (charR r)) ∧ w' = w := by
  go_enter Tryz.func45, Tryz.ntmps45
  go_wp2
  all_goals
    go_ret
    refine ⟨ret_bool ?_, rfl⟩
    rw [Bool.eq_iff_iff]
    simp [charR]
    try omega
end Go.Proofs.YtkklapoceknbcaaGreatDoor
/- The first byte that is no part of a character that may be: the reference's Bad and IsText. -/
namespace Go.Proofs.YtkklapoceknbcaaGreatDoor
open Go.RowKit
/-- The first byte that is no part of a character that may be, from a place on; is it no part of a character at all? -/
def badFrom (s : ByteArray) : Nat → Nat → Int × Bool
  | 0, _ => (-1, false)
  | f + 1, pos => if pos < s.size then
      (if ((Utf8.decode s pos).1 : Int) == 65533 && ((Utf8.decode s pos).2 : Int) == 1 then ((pos : Int), true)
       else if charR (Utf8.decode s pos).1 then badFrom s f (pos + (Utf8.decode s pos).2) else ((pos : Int), false))
    else (-1, false)
theorem decodeRune_at (s : ByteArray) (pos : Nat) (w : World) (hp : pos < s.size) (hE : Env w) :
    Calls Tryz.prog 32 #[.string (s.extract pos s.size)] w fun e w' => e = .returned (.tuple #[.int .i32 (Utf8.decode s pos).1, .int .i64 (Utf8.decode s pos).2]) ∧ Below w.heap.size w w' := by
  have e : Lib.decodeGo (s.extract pos s.size) = Utf8.decode s pos := by
    unfold Lib.decodeGo
    rw [if_neg (by rw [ByteArray.size_extract]; omega), Lib.tail_decode, Nat.add_zero]
  have := Tryz.utf8_DecodeRuneInString (s.extract pos s.size) w hE.tabs
  rw [e] at this
  exact this
theorem badFrom_step (s : ByteArray) (f pos : Nat) (hp : pos < s.size) (hb : s.size < pos + f) : ∃ g, f = g + 1 ∧ badFrom s f pos =
    (if ((Utf8.decode s pos).1 : Int) == 65533 && ((Utf8.decode s pos).2 : Int) == 1 then ((pos : Int), true)
       else if charR (Utf8.decode s pos).1 then badFrom s g (pos + (Utf8.decode s pos).2) else ((pos : Int), false)) := by
  cases f with
  | zero => omega
  | succ g => exact ⟨g, rfl, by rw [badFrom, if_pos hp]⟩
theorem badFrom_end (s : ByteArray) (f pos : Nat) (hp : ¬ pos < s.size) : badFrom s f pos = (-1, false) := by
  cases f with
  | zero => rfl
  | succ g => rw [badFrom, if_neg hp]
theorem ret_bad {x : Int × Bool} {a : Int} {b : Bool} (h : x = (a, b)) : Ending.returned (.tuple #[.int .i64 a, .bool b]) = .returned (.tuple #[.int .i64 x.1, .bool x.2]) := by rw [h]
set_option maxHeartbeats 1000000 in
theorem refBad_any (s : ByteArray) (w : World) (hs : s.size ≤ 4294967280) (hE : Env w) :
    Calls Tryz.prog 24 #[.string s] w fun e w' => e = .returned (.tuple #[.int .i64 (badFrom s (s.size + 1) 0).1, .bool (badFrom s (s.size + 1) 0).2]) ∧ Below w.heap.size w w' := by
  have HE := hide hE
  clear hE
  go_enter Tryz.func24, Tryz.ntmps24
  go_wp2_with fail
  go_loopw [4] (fun i wr => ∃ (pos f : Nat), i = .int .i64 pos ∧ pos ≤ s.size ∧ Below w.heap.size w wr ∧ badFrom s (s.size + 1) 0 = badFrom s f pos ∧ s.size < pos + f) (fun i wr => s.size - (intOf i).toNat)
  case atStart => exact ⟨0, s.size + 1, rfl, Nat.zero_le _, Below.refl _ _, rfl, by omega⟩
  case round =>
    obtain ⟨pos, f, rfl, hps, hbr, hf, hfu⟩ := hrel
    by_cases hp : pos < s.size
    · have hwd := width_pos s pos hp
      obtain ⟨_, _, hwe⟩ := decode_bytes s pos hp
      obtain ⟨g, rfl, hg⟩ := badFrom_step s f pos hp hfu
      have HF := hide (hf.trans hg)
      clear hf hg
      go_wp2_with fail
      refine (decodeRune_at s pos _ hp ((unhide HE).below hbr)).mono ?_
      rintro e w1 ⟨rfl, hb1⟩
      generalize hd : Utf8.decode s pos = d at *
      clear hd
      go_wp2_with (go_at_call 45; refine (refIsChar_any _ _).mono ?_; rintro e w' ⟨rfl, rfl⟩)
      all_goals first
        | (go_ret2
           refine ⟨ret_bad ?_, Below.then hbr hb1⟩
           rw [unhide HF]
           simp_all)
        | (refine ⟨⟨pos + d.2, g, by go_num, hwe, Below.then hbr hb1, ?_, by omega⟩, by simp [intOf]; omega⟩
           rw [unhide HF]
           simp_all)
    · have HF := hide (hf.trans (badFrom_end s f pos hp))
      clear hf
      go_wp2
      go_ret2
      exact ⟨ret_bad (unhide HF), hbr⟩
def textR (s : ByteArray) : Bool := decide ((badFrom s (s.size + 1) 0).1 < 0)
set_option maxHeartbeats 1000000 in
theorem refIsText_any (s : ByteArray) (w : World) (hs : s.size ≤ 4294967280) (hE : Env w) :
    Calls Tryz.prog 13 #[.string s] w fun e w' => e = .returned (.bool (textR s)) ∧ Below w.heap.size w w' := by
  have HE := hide hE
  clear hE
  go_enter Tryz.func13, Tryz.ntmps13
  go_wp2_with fail
  refine (refBad_any s _ hs (unhide HE)).mono ?_
  rintro e w1 ⟨rfl, hb1⟩
  go_wp2
  all_goals
    go_ret
    exact ⟨ret_bool (by simp [textR, *]), hb1⟩
end Go.Proofs.YtkklapoceknbcaaGreatDoor
/- What the program takes for a fault is what the reference takes for one: plain lemmas. -/
namespace Go.Proofs.YtkklapoceknbcaaGreatDoor
open Go.RowKit
theorem mark_iff (s : ByteArray) (pos : Nat) : markAt s pos = true ↔ pos + 2 < s.size ∧ (s.get! pos).toNat = 239 ∧ (s.get! (pos + 1)).toNat = 191 ∧ (s.get! (pos + 2)).toNat = 189 := by
  have hl : s.data.toList.length = s.size := rfl
  unfold markAt Lib.hasPrefix
  rw [List.isPrefixOf_iff_prefix, List.prefix_iff_eq_take]
  constructor
  · intro h
    have h3 : pos + 2 < s.size := by
      have := congrArg List.length h
      simp only [List.length_take, List.length_drop, List.length_cons, List.length_nil, hl] at this
      omega
    have g : ∀ k (hk : k < 3), (s.data.toList[pos + k]'(by omega)) = [239, 191, 189][k]'hk := fun k hk => by
      have := congrArg (·[k]?) h
      simp only [List.getElem?_take, List.getElem?_drop, List.length_cons, List.length_nil, hk, if_true] at this
      rw [List.getElem?_eq_getElem (by simpa using hk), List.getElem?_eq_getElem (by omega)] at this
      exact (Option.some.inj this).symm
    refine ⟨h3, ?_, ?_, ?_⟩
    · rw [get_data s pos (by omega)]; have := g 0 (by decide); simp only [Nat.add_zero] at this; rw [this]; rfl
    · rw [get_data s (pos + 1) (by omega), g 1 (by decide)]; rfl
    · rw [get_data s (pos + 2) (by omega), g 2 (by decide)]; rfl
  · rintro ⟨h3, h0, h1, h2⟩
    rw [get_data s pos (by omega)] at h0
    rw [get_data s (pos + 1) (by omega)] at h1
    rw [get_data s (pos + 2) (by omega)] at h2
    rw [List.drop_eq_getElem_cons (by omega), List.drop_eq_getElem_cons (by omega), List.drop_eq_getElem_cons (by omega)]
    simp only [List.length_cons, List.length_nil, List.take_succ_cons, List.take_zero]
    rw [UInt8.toNat_inj.1 (show _ = (239 : UInt8).toNat from h0), UInt8.toNat_inj.1 (show _ = (191 : UInt8).toNat from h1), UInt8.toNat_inj.1 (show _ = (189 : UInt8).toNat from h2)]
/-- The replacement character is decoded of its own three bytes, or of one byte that is none. -/
theorem mark_width (s : ByteArray) (pos : Nat) (h : (Utf8.decode s pos).1 = 65533) : (!markAt s pos) = ((Utf8.decode s pos).2 == 1) := by
  have b0 := (s.get! pos).toNat_lt
  have b1 := (s.get! (pos + 1)).toNat_lt
  have b2 := (s.get! (pos + 2)).toNat_lt
  have hm := mark_iff s pos
  revert h
  rw [Lib.decode_at]
  intro h
  generalize (s.get! pos).toNat = x0 at *
  generalize (s.get! (pos + 1)).toNat = x1 at *
  generalize (s.get! (pos + 2)).toNat = x2 at *
  generalize (s.get! (pos + 3)).toNat = x3 at *
  have key : ((Lib.decodeN (s.size - pos) x0 x1 x2 x3).2 = 1 ∧ ¬ (pos + 2 < s.size ∧ x0 = 239 ∧ x1 = 191 ∧ x2 = 189)) ∨ ((Lib.decodeN (s.size - pos) x0 x1 x2 x3).2 ≠ 1 ∧ (pos + 2 < s.size ∧ x0 = 239 ∧ x1 = 191 ∧ x2 = 189)) := by
    revert h
    unfold Lib.decodeN
    repeat' split
    all_goals (intro h; first | (exfalso; simp only at h; omega) | (left; refine ⟨rfl, ?_⟩; omega) | (right; refine ⟨by simp only; omega, ?_⟩; simp only at h; omega))
  rcases key with ⟨k1, k2⟩ | ⟨k1, k2⟩
  · rw [k1]
    cases hc : markAt s pos
    · rfl
    · exact absurd (hm.1 hc) k2
  · rw [hm.2 k2]
    simp [k1]
theorem text_eq (s : ByteArray) : ∀ f pos, ((faultFrom s f pos).1 == 0) = decide ((badFrom s f pos).1 < 0)
  | 0, pos => rfl
  | f + 1, pos => by
    have hd := decode_le s pos
    unfold faultFrom badFrom
    by_cases hp : pos < s.size
    · rw [if_pos hp, if_pos hp]
      by_cases h : (Utf8.decode s pos).1 = 65533
      · rw [mark_width s pos h, h]
        by_cases hw : (Utf8.decode s pos).2 = 1
        · simp [hw]
        · have ih := text_eq s f (pos + (Utf8.decode s pos).2)
          have hc : charB ((65533 : Nat) : Int) = true := by decide +kernel
          have hc' : charR ((65533 : Nat) : Int) = true := by decide +kernel
          have hw' : (((Utf8.decode s pos).2 : Int) == 1) = false := by simp; omega
          have hw'' : ((Utf8.decode s pos).2 == 1) = false := by simpa using hw
          simp only [hc, hc', hw', hw'', Bool.and_false, if_true, Bool.false_eq_true, if_false]
          exact ih
      · have h' : (((Utf8.decode s pos).1 : Int) == 65533) = false := by simp; omega
        rw [charB_eq _ (by omega)]
        simp only [h', Bool.false_and, Bool.false_eq_true, if_false]
        cases hc : charR (Utf8.decode s pos).1
        · simp
        · simpa using text_eq s f (pos + (Utf8.decode s pos).2)
    · rw [if_neg hp, if_neg hp]; rfl
end Go.Proofs.YtkklapoceknbcaaGreatDoor
/- Texts, as characters one behind the other, in UTF-8: plain lemmas. -/
namespace Go.Proofs.YtkklapoceknbcaaGreatDoor
open Go.RowKit
theorem charB_dec (s : ByteArray) (pos : Nat) : charB ((Utf8.decode s pos).1 : Nat) = charR ((Utf8.decode s pos).1 : Nat) :=
  charB_eq _ (by have := rune_le s pos; omega)
theorem txt_nil : Txt [] := ⟨[], by simp, rfl⟩
theorem txt_cons {r : Nat} {t : List UInt8} (hr : charR (r : Int) = true) (h : Txt t) : Txt (runeB r ++ t) := by
  obtain ⟨rs, h1, rfl⟩ := h
  exact ⟨r :: rs, fun x hx => by rcases List.mem_cons.1 hx with rfl | hx; exact hr; exact h1 x hx, rfl⟩
theorem txt_snoc {r : Nat} {t : List UInt8} (hr : charR (r : Int) = true) (h : Txt t) : Txt (t ++ runeB r) := by
  obtain ⟨rs, h1, rfl⟩ := h
  exact ⟨rs ++ [r], fun x hx => by rcases List.mem_append.1 hx with hx | hx; exact h1 x hx; rw [List.mem_singleton.1 hx]; exact hr, by simp⟩
theorem txt_head {l : List UInt8} (h : Txt l) (hl : l ≠ []) : charR ((Lib.decodeL l).1 : Nat) = true ∧ l = runeB (Lib.decodeL l).1 ++ l.drop (Lib.decodeL l).2 ∧ Txt (l.drop (Lib.decodeL l).2) ∧ ¬ ((Lib.decodeL l).1 = 65533 ∧ (Lib.decodeL l).2 = 1) := by
  obtain ⟨rs, h1, rfl⟩ := h
  cases rs with
  | nil => exact absurd rfl hl
  | cons r rs =>
    have hr := h1 r (by simp)
    have e : (r :: rs).flatMap runeB = runeB r ++ rs.flatMap runeB := rfl
    rw [e, dec_rune r (charR_ok hr)]
    simp only [List.drop_left]
    refine ⟨hr, trivial, ⟨rs, fun x hx => h1 x (by simp [hx]), rfl⟩, ?_⟩
    rintro ⟨rfl, hh⟩
    exact absurd hh (by decide +kernel)
theorem drop_nil (s : ByteArray) (pos : Nat) (h : ¬ pos < s.size) : s.data.toList.drop pos = [] := List.drop_eq_nil_of_le (by show s.size ≤ pos; omega)
theorem drop_ne (s : ByteArray) (pos : Nat) (h : pos < s.size) : s.data.toList.drop pos ≠ [] := by
  intro e
  have := congrArg List.length e
  rw [List.length_drop] at this
  have h' : s.data.toList.length = s.size := rfl
  simp at this
  omega
theorem fault_txt (s : ByteArray) : ∀ f pos, s.size < pos + f → ((faultFrom s f pos).1 = 0 ↔ Txt (s.data.toList.drop pos))
  | 0, pos, h => by
    rw [drop_nil s pos (by omega)]
    exact ⟨fun _ => txt_nil, fun _ => rfl⟩
  | f + 1, pos, h => by
    by_cases hp : pos < s.size
    · rw [faultFrom, if_pos hp, charB_dec]
      have hne := drop_ne s pos hp
      have hw := width_pos s pos hp
      have hmw := mark_width s pos
      have hrd := rune_dec _ hne
      have hth := fun hx => txt_head (l := s.data.toList.drop pos) hx hne
      rw [Lib.decodeL_drop] at hrd hth
      rw [List.drop_drop] at hrd hth
      have ih := fault_txt s f (pos + (Utf8.decode s pos).2) (by omega)
      generalize Utf8.decode s pos = d at *
      by_cases hb : d.1 = 65533 ∧ d.2 = 1
      · have e : (((d.1 : Nat) : Int) == 65533 && !markAt s pos) = true := by rw [hmw hb.1, hb.1, hb.2]; rfl
        rw [if_pos e]
        exact ⟨fun h => absurd h (by simp), fun h => absurd hb (hth h).2.2.2⟩
      · have e : ¬ (((d.1 : Nat) : Int) == 65533 && !markAt s pos) = true := by
          intro h
          rw [Bool.and_eq_true] at h
          have h1 : d.1 = 65533 := by have := beq_iff_eq.1 h.1; omega
          rw [hmw h1] at h
          exact hb ⟨h1, beq_iff_eq.1 h.2⟩
        rw [if_neg e]
        obtain ⟨ho, heq⟩ := hrd hb
        by_cases hc : charR ((d.1 : Nat) : Int) = true
        · rw [if_pos hc, ih]
          exact ⟨fun h => by rw [heq]; exact txt_cons hc h, fun h => (hth h).2.2.1⟩
        · rw [if_neg hc]
          exact ⟨fun h => absurd h (by simp), fun h => absurd (hth h).1 hc⟩
    · rw [faultFrom, if_neg hp, drop_nil s pos hp]
      exact ⟨fun _ => txt_nil, fun _ => rfl⟩
end Go.Proofs.YtkklapoceknbcaaGreatDoor
/- Tokens of expressions, over lists of characters: what xplex's functions tell, in plain terms. -/
namespace Go.Proofs.YtkklapoceknbcaaGreatDoor
def begC (c : Nat) : Bool := inL (c : Int) beginL
def goC (c : Nat) : Bool := inL (c : Int) beginL || inL (c : Int) onL
def blankC (c : Nat) : Bool := c == 9 || c == 10 || c == 13 || c == 32
def digC (c : Nat) : Bool := decide (48 ≤ c) && decide (c ≤ 57)
/-- The name that characters begin with. -/
def nameA : List Nat → List Nat
  | [] => []
  | c :: t => if begC c then c :: t.takeWhile goC else []
def isNm (l : List Nat) : Bool := !l.isEmpty && nameA l == l
/-- Does a list begin with a character, and what stands behind it? -/
def heads (c : Nat) (l : List Nat) : Bool := l.head? == some c
def qnameA (l : List Nat) : List Nat :=
  if !(nameA l).isEmpty && (heads 58 (l.drop (nameA l).length) && !(nameA (l.drop (nameA l).length).tail).isEmpty) then nameA l ++ 58 :: nameA (l.drop (nameA l).length).tail else nameA l
def wordA (l : List Nat) : List Nat :=
  if heads 42 l then [42] else
  if isNm (qnameA l) && [58, 42].isPrefixOf (l.drop (qnameA l).length) then qnameA l ++ [58, 42] else qnameA l
def digsA (l : List Nat) : List Nat := l.takeWhile digC
def numA (l : List Nat) : List Nat :=
  if heads 46 (l.drop (digsA l).length) && !(digsA (l.drop (digsA l).length).tail).isEmpty then digsA l ++ 46 :: digsA (l.drop (digsA l).length).tail else digsA l
/-- What stands within the string that characters begin with, and its sign. -/
def strAt (q : Nat) (l : List Nat) : Option (List Nat) :=
  if heads q l && l.tail.contains q then some (l.tail.takeWhile (· != q)) else none
def varA (l : List Nat) : Option (List Nat) :=
  if heads 36 l && !(qnameA l.tail).isEmpty then some (qnameA l.tail) else none
/-- Is it a QName? -/
def isQ (w : List Nat) : Bool :=
  if w.contains 58 then isNm (w.takeWhile (· != 58)) && isNm (w.dropWhile (· != 58)).tail else isNm w
def opWord (w : List Nat) : Bool := w == [97, 110, 100] || w == [111, 114] || w == [109, 111, 100] || w == [100, 105, 118] || w == [42]
def typeWord (w : List Nat) : Bool := w == [99, 111, 109, 109, 101, 110, 116] || w == [116, 101, 120, 116] ||
  w == [112, 114, 111, 99, 101, 115, 115, 105, 110, 103, 45, 105, 110, 115, 116, 114, 117, 99, 116, 105, 111, 110] || w == [110, 111, 100, 101]
/-- What a word is: its kind; none: it can't stand there. pl: an operator is asked for there. -/
def wordK (w b : List Nat) (pl : Bool) : Option Nat :=
  if pl then (if opWord w then some 8 else none) else
  if heads 40 (b.dropWhile blankC) && typeWord w then some 5 else
  if heads 40 (b.dropWhile blankC) && isQ w then some 4 else
  if [58, 58].isPrefixOf (b.dropWhile blankC) && isNm w then some 6 else some 3
def signL : List (Nat × List Nat) := [(8, [47, 47]), (8, [33, 61]), (8, [60, 61]), (8, [62, 61]), (9, [58, 58]), (9, [46, 46]), (8, [47]), (8, [124]), (8, [43]), (8, [45]), (8, [61]), (8, [60]), (8, [62]),
  (9, [40]), (9, [41]), (9, [91]), (9, [93]), (9, [46]), (9, [64]), (9, [44])]
def signA (l : List Nat) : Option (Nat × List Nat) := signL.find? (fun x => x.2.isPrefixOf l)
/-- A token: its kind, its text, and the characters that it takes. -/
structure Tok where
  kind : Nat
  text : List Nat
  raw : List Nat
  deriving DecidableEq
def tokA (l : List Nat) (pl : Bool) : Option Tok :=
  if !(numA l).isEmpty then some ⟨1, numA l, numA l⟩ else
  match strAt 34 l with
  | some t => some ⟨2, t, 34 :: t ++ [34]⟩
  | none => match strAt 39 l with
    | some t => some ⟨2, t, 39 :: t ++ [39]⟩
    | none => match varA l with
      | some t => some ⟨7, t, 36 :: t⟩
      | none => if !(wordA l).isEmpty then (wordK (wordA l) (l.drop (wordA l).length) pl).map (fun k => ⟨k, wordA l, wordA l⟩)
        else (signA l).map (fun x => ⟨x.1, x.2, x.2⟩)
/-- Is an operator asked for behind a token? -/
def behindOp (t : Tok) : Bool := !(t.kind == 8 || (t.kind == 9 && (t.text == [64] || t.text == [58, 58] || t.text == [40] || t.text == [91] || t.text == [44])))
def plOf (acc : List (Tok × Nat)) : Bool := match acc.getLast? with | none => false | some t => behindOp t.1
/-- The tokens from a place on, behind blanks: all of them, or the place of what is none. n: how many bytes a list of characters has. -/
def scanA (n : List Nat → Nat) : Nat → List (Tok × Nat) → List Nat → List Nat → Except Nat (List (Tok × Nat))
  | 0, acc, _, _ => .ok acc
  | f + 1, acc, pre, l =>
    if (l.dropWhile blankC).isEmpty then .ok acc else
    match tokA (l.dropWhile blankC) (plOf acc) with
    | none => .error (n (pre ++ l.takeWhile blankC))
    | some t => scanA n f (acc ++ [(t, n (pre ++ l.takeWhile blankC))]) (pre ++ l.takeWhile blankC ++ t.raw) ((l.dropWhile blankC).drop t.raw.length)
end Go.Proofs.YtkklapoceknbcaaGreatDoor
/- Texts as lists of characters: their bytes, what is cut off them, what is decoded at a place: plain lemmas. -/
namespace Go.Proofs.YtkklapoceknbcaaGreatDoor
open Go.RowKit
/-- A list of characters as bytes, as a text. -/
def tx (l : List Nat) : List UInt8 := l.flatMap runeB
def T (l : List Nat) : ByteArray := ⟨(tx l).toArray⟩
def okL (l : List Nat) : Prop := ∀ c ∈ l, charR (c : Int) = true
theorem tx_nil : tx [] = [] := rfl
theorem tx_cons (c : Nat) (l : List Nat) : tx (c :: l) = runeB c ++ tx l := rfl
theorem tx_append (a b : List Nat) : tx (a ++ b) = tx a ++ tx b := by unfold tx; rw [List.flatMap_append]
theorem T_data (l : List Nat) : (T l).data.toList = tx l := by unfold T; simp
theorem T_toList (l : List Nat) : (T l).toList = tx l := by rw [toList_data, T_data]
theorem T_size (l : List Nat) : (T l).size = (tx l).length := rfl
theorem okL_left {a b : List Nat} (h : okL (a ++ b)) : okL a := fun c hc => h c (List.mem_append_left _ hc)
theorem okL_right {a b : List Nat} (h : okL (a ++ b)) : okL b := fun c hc => h c (List.mem_append_right _ hc)
theorem okL_tail {c : Nat} {l : List Nat} (h : okL (c :: l)) : okL l := fun x hx => h x (List.mem_cons_of_mem _ hx)
theorem okL_drop {l : List Nat} (h : okL l) (n : Nat) : okL (l.drop n) := fun c hc => h c (List.mem_of_mem_drop hc)
theorem okL_pre {a l : List Nat} (h : okL l) (hp : a <+: l) : okL a := fun c hc => h c (hp.subset hc)
theorem okL_app {a b : List Nat} (ha : okL a) (hb : okL b) : okL (a ++ b) := fun c hc => by
  rcases List.mem_append.1 hc with h | h
  · exact ha c h
  · exact hb c h
theorem runeB_pos {c : Nat} (h : charR (c : Int) = true) : 1 ≤ (runeB c).length := by
  obtain ⟨x, t, e, _⟩ := runeB_first (charR_ok h)
  rw [e]; simp
theorem tx_len_cons {c : Nat} {l : List Nat} (h : okL (c :: l)) : (tx l).length < (tx (c :: l)).length := by
  have := runeB_pos (h c (by simp))
  rw [tx_cons, List.length_append]; omega
theorem tx_len_ge : ∀ {l : List Nat}, okL l → l.length ≤ (tx l).length
  | [], _ => Nat.zero_le _
  | c :: l, h => by
    have h1 := tx_len_cons h
    have h2 := tx_len_ge (okL_tail h)
    simp only [List.length_cons]; omega
theorem tx_len_zero {l : List Nat} (h : okL l) (h0 : (tx l).length = 0) : l = [] := by
  have := tx_len_ge h
  exact List.length_eq_zero_iff.1 (by omega)
theorem tx_snoc (p : List Nat) (c : Nat) : (tx (p ++ [c])).length = (tx p).length + (runeB c).length := by
  rw [tx_append, List.length_append]; simp [tx]
theorem tx_len_app (p t : List Nat) : (tx (p ++ t)).length = (tx p).length + (tx t).length := by rw [tx_append, List.length_append]
/-- What is decoded at a character's place. -/
theorem dec_T (p : List Nat) (c : Nat) (t : List Nat) (h : charR (c : Int) = true) : Utf8.decode (T (p ++ c :: t)) (tx p).length = (c, (runeB c).length) ∧ (tx p).length < (T (p ++ c :: t)).size := by
  have hd : (T (p ++ c :: t)).data.toList.drop (tx p).length = runeB c ++ tx t := by
    rw [T_data, tx_append, List.drop_left, tx_cons]
  refine ⟨?_, ?_⟩
  · rw [← Lib.decodeL_drop, hd]
    exact dec_rune c (charR_ok h) _
  · have := runeB_pos h
    rw [T_size, tx_len_app, tx_cons, List.length_append]; omega
theorem dec_at {l p t : List Nat} {c : Nat} (e : l = p ++ c :: t) (h : okL l) : Utf8.decode (T l) (tx p).length = (c, (runeB c).length) ∧ (tx p).length < (T l).size ∧ charR (c : Int) = true ∧ 1 ≤ (runeB c).length := by
  subst e
  have hc := h c (by simp)
  exact ⟨(dec_T p c t hc).1, (dec_T p c t hc).2, hc, runeB_pos hc⟩
theorem end_at {l p : List Nat} (e : l = p ++ []) : ¬ (tx p).length < (T l).size := by
  subst e; rw [T_size, List.append_nil]; omega
theorem T_pre (p t : List Nat) : (T (p ++ t)).extract 0 (tx p).length = T p := by
  unfold T
  apply ByteArray.ext
  rw [ByteArray.data_extract, tx_append]
  simp
theorem pre_at {l p t : List Nat} (e : l = p ++ t) : (T l).extract 0 (tx p).length = T p := by subst e; exact T_pre p t
theorem T_suf (p t : List Nat) : (T (p ++ t)).extract (tx p).length (T (p ++ t)).size = T t := by
  rw [T_size]
  unfold T
  apply ByteArray.ext
  rw [ByteArray.data_extract, tx_append]
  simp
theorem suf_at {l p t : List Nat} (e : l = p ++ t) : (T l).extract (tx p).length (T l).size = T t := by subst e; exact T_suf p t
theorem T_mid (p m t : List Nat) : (T (p ++ m ++ t)).extract (tx p).length ((tx p).length + (tx m).length) = T m := by
  unfold T
  apply ByteArray.ext
  rw [ByteArray.data_extract, tx_append, tx_append]
  simp
theorem T_app (a b : List Nat) : T a ++ T b = T (a ++ b) := by
  unfold T
  apply ByteArray.ext
  rw [ByteArray.data_append, tx_append]
  simp
theorem T_empty {l : List Nat} (h : okL l) : ((T l).toList = [] ↔ l = []) := by
  rw [T_toList]
  constructor
  · intro h0; exact tx_len_zero h (by rw [h0]; rfl)
  · rintro rfl; rfl
/-- A text that begins with signs below 128. -/
theorem pre_tx : ∀ (a l : List Nat), (∀ c ∈ a, c < 128) → okL l → Lib.hasPrefix (tx l) (a.map UInt8.ofNat) = a.isPrefixOf l
  | [], l, _, _ => by unfold Lib.hasPrefix; cases tx l <;> rfl
  | x :: a, [], _, _ => rfl
  | x :: a, c :: l, ha, hl => by
    have hx := ha x (by simp)
    have ih := pre_tx a l (fun c hc => ha c (by simp [hc])) (okL_tail hl)
    have hc := charR_ok (hl c (by simp))
    unfold Lib.hasPrefix at ih ⊢
    rw [tx_cons, List.map_cons]
    show _ = (x == c && a.isPrefixOf l)
    by_cases h1 : c < 128
    · rw [runeB_one h1, List.singleton_append]
      show (UInt8.ofNat x == UInt8.ofNat c && (a.map UInt8.ofNat).isPrefixOf (tx l)) = _
      rw [ih]
      congr 1
      rw [Bool.eq_iff_iff, beq_iff_eq, beq_iff_eq]
      constructor
      · intro e
        have := congrArg UInt8.toNat e
        rwa [u8_nat (by omega), u8_nat (by omega)] at this
      · rintro rfl; rfl
    · have hne : (x == c) = false := by simp; omega
      rw [hne, Bool.false_and]
      have key : ∀ (n : Nat) (r : List UInt8), 128 ≤ n → n < 256 → (UInt8.ofNat x :: a.map UInt8.ofNat).isPrefixOf (UInt8.ofNat n :: r) = false := by
        intro n r h2 h3
        show (UInt8.ofNat x == UInt8.ofNat n && _) = false
        have : (UInt8.ofNat x == UInt8.ofNat n) = false := by
          rw [beq_eq_false_iff_ne]
          intro e
          have := congrArg UInt8.toNat e
          rw [u8_nat (by omega), u8_nat h3] at this
          omega
        rw [this, Bool.false_and]
      unfold okR at hc
      by_cases h2 : c < 2048
      · rw [runeB_two (by omega) h2]; exact key _ _ (by omega) (by omega)
      · by_cases h3 : c < 65536
        · rw [runeB_three (by omega) h3 (by unfold okR; omega)]; exact key _ _ (by omega) (by omega)
        · rw [runeB_four (by omega) (by omega)]; exact key _ _ (by omega) (by omega)
theorem isPre_one (q : Nat) (l : List Nat) : [q].isPrefixOf l = heads q l := by
  cases l with
  | nil => rfl
  | cons c t =>
    show (q == c && [].isPrefixOf t) = _
    rw [show ([] : List Nat).isPrefixOf t = true by cases t <;> rfl, Bool.and_true]
    unfold heads
    simp only [List.head?_cons]
    rw [Bool.eq_iff_iff]; simp; exact eq_comm
theorem pre_one {q : Nat} {l : List Nat} (hq : q < 128) (hl : okL l) : Lib.hasPrefix (tx l) [UInt8.ofNat q] = heads q l := by
  have := pre_tx [q] l (fun c hc => by rw [List.mem_singleton.1 hc]; exact hq) hl
  rw [isPre_one] at this
  exact this
theorem cut_one {q : Nat} {l : List Nat} (hq : q < 128) (hl : okL l) : Lib.trimPrefix (tx l) [UInt8.ofNat q] = tx (if heads q l then l.tail else l) := by
  unfold Lib.trimPrefix
  rw [pre_one hq hl]
  by_cases h : heads q l = true
  · rw [if_pos h, if_pos h]
    cases l with
    | nil => cases h
    | cons c t =>
      have hc : c = q := by unfold heads at h; simpa using h
      subst hc
      rw [tx_cons, runeB_one hq]
      rfl
  · rw [if_neg h, if_neg h]
theorem digC_lt {c : Nat} (h : digC c = true) : 48 ≤ c ∧ c ≤ 57 := by simpa [digC] using h
theorem digC_ge {c : Nat} (h : digC c = false) : c < 48 ∨ 57 < c := by simp [digC] at h; omega
theorem begC_eq (c : Nat) (h : charR (c : Int) = true) : beginB (c : Int) = begC c := beginB_eq _ (by have := charR_ok h; unfold okR at this; omega)
theorem goC_eq (c : Nat) (h : charR (c : Int) = true) : goesB (c : Int) = goC c := goesB_eq _ (by have := charR_ok h; unfold okR at this; omega)
theorem blankC_eq (c : Nat) : blankB (c : Int) = blankC c := by
  unfold blankB blankC
  rw [Bool.eq_iff_iff]
  simp
  omega
/-- A text of characters that may be is one of a list of such. -/
theorem txt_T {s : ByteArray} (h : Txt s.data.toList) : ∃ l, okL l ∧ s = T l := by
  obtain ⟨rs, h1, h2⟩ := h
  refine ⟨rs, h1, ?_⟩
  unfold T tx
  rw [← h2]
theorem T_txt {l : List Nat} (h : okL l) : Txt (T l).data.toList := ⟨l, h, T_data l⟩
end Go.Proofs.YtkklapoceknbcaaGreatDoor
/- Tokens that are parted by blanks are read as they were: plain lemmas. -/
namespace Go.Proofs.YtkklapoceknbcaaGreatDoor
/-- Nothing, or a blank first. -/
def parted (r : List Nat) : Prop := ∀ c, r.head? = some c → blankC c = true
theorem parted_nil : parted [] := fun _ h => by cases h
theorem parted_cons {c : Nat} {r : List Nat} (h : blankC c = true) : parted (c :: r) := fun _ e => by cases e; exact h
theorem blank_four {c : Nat} (h : blankC c = true) : c = 9 ∨ c = 10 ∨ c = 13 ∨ c = 32 := by simp [blankC] at h; omega
theorem begC_ge {c : Nat} (h : begC c = true) : 65 ≤ c := by simp [begC, inL, beginL] at h; omega
theorem begC_ne {c : Nat} (h : begC c = true) : c ≠ 91 ∧ c ≠ 93 ∧ c ≠ 124 ∧ c ≠ 64 := by simp [begC, inL, beginL] at h; omega
theorem goC_ge {c : Nat} (h : goC c = true) : 45 ≤ c ∧ c ≠ 58 ∧ c ≠ 47 := by simp [goC, inL, beginL, onL] at h; omega
theorem goC_of_beg {c : Nat} (h : begC c = true) : goC c = true := by simp only [begC] at h; simp [goC, h]
/-- A run ends where the test fails. -/
theorem takeWhile_run (p : Nat → Bool) (a r : List Nat) (ha : ∀ c ∈ a, p c = true) (hr : ∀ c, r.head? = some c → p c = false) : (a ++ r).takeWhile p = a := by
  rw [List.takeWhile_append_of_pos ha]
  cases r with
  | nil => simp
  | cons c t => rw [List.takeWhile_cons_of_neg (by rw [hr c rfl]; decide)]; simp
theorem dropWhile_run (p : Nat → Bool) (a r : List Nat) (ha : ∀ c ∈ a, p c = true) (hr : ∀ c, r.head? = some c → p c = false) : (a ++ r).dropWhile p = r := by
  rw [List.dropWhile_append_of_pos ha]
  cases r with
  | nil => simp
  | cons c t => rw [List.dropWhile_cons_of_neg (by rw [hr c rfl]; decide)]
theorem all_takeWhile (p : Nat → Bool) (l : List Nat) : ∀ c ∈ l.takeWhile p, p c = true := fun c hc => by
  have := List.all_takeWhile (p := p) (l := l)
  rw [List.all_eq_true] at this
  exact this c hc
theorem heads_cons (c d : Nat) (t : List Nat) : heads c (d :: t) = (d == c) := by
  unfold heads; simp only [List.head?_cons]; rw [Bool.eq_iff_iff]; simp
theorem heads_nil (c : Nat) : heads c [] = false := rfl
theorem heads_true {c : Nat} {l : List Nat} (h : heads c l = true) : l = c :: l.tail := by
  cases l with
  | nil => cases h
  | cons d t => rw [heads_cons] at h; simp at h; subst h; rfl
theorem heads_parted {c : Nat} {r : List Nat} (h : parted r) (hc : blankC c = false) : heads c r = false := by
  cases r with
  | nil => rfl
  | cons d t =>
    have := h d rfl
    rw [heads_cons]
    by_cases e : d = c
    · subst e; rw [hc] at this; cases this
    · simpa using e
theorem digsA_all (l : List Nat) : ∀ c ∈ digsA l, digC c = true := all_takeWhile digC l
theorem digsA_run (a r : List Nat) (ha : ∀ c ∈ a, digC c = true) (hr : ∀ c, r.head? = some c → digC c = false) : digsA (a ++ r) = a := takeWhile_run digC a r ha hr
theorem digsA_pre (l : List Nat) : digsA l ++ l.drop (digsA l).length = l := by
  have h : digsA l <+: l := List.takeWhile_prefix _
  obtain ⟨t, e⟩ := h
  conv => lhs; rw [← e]
  rw [e]
  conv => rhs; rw [← e]
  congr 1
  conv => lhs; rw [← e]
  rw [show digsA (digsA l ++ t) = digsA l by rw [e]]
  simp
theorem blank_dig {c : Nat} (h : blankC c = true) : digC c = false := by
  rcases blank_four h with rfl | rfl | rfl | rfl <;> rfl
theorem blank_go {c : Nat} (h : blankC c = true) : goC c = false := by
  rcases blank_four h with rfl | rfl | rfl | rfl <;> decide
theorem parted_dig {r : List Nat} (h : parted r) : ∀ c, r.head? = some c → digC c = false := fun c hc => blank_dig (h c hc)
theorem parted_go {r : List Nat} (h : parted r) : ∀ c, r.head? = some c → goC c = false := fun c hc => blank_go (h c hc)
theorem ne_empty {l : List Nat} (h : (!l.isEmpty) = true) : l ≠ [] := by cases l with | nil => cases h | cons _ _ => simp
theorem empty_not {l : List Nat} (h : l ≠ []) : (!l.isEmpty) = true := by cases l with | nil => exact absurd rfl h | cons _ _ => rfl
theorem numA_re (l r : List Nat) (hr : parted r) : numA (numA l ++ r) = numA l := by
  unfold numA
  by_cases h : (heads 46 (l.drop (digsA l).length) && !(digsA (l.drop (digsA l).length).tail).isEmpty) = true
  · rw [if_pos h]
    rw [Bool.and_eq_true] at h
    have hy := digsA_all (l.drop (digsA l).length).tail
    generalize digsA (l.drop (digsA l).length).tail = y at *
    have e1 : digsA (digsA l ++ 46 :: y ++ r) = digsA l := by
      rw [List.append_assoc]
      exact digsA_run _ _ (digsA_all l) (fun c hc => by cases hc; rfl)
    rw [e1]
    have e2 : (digsA l ++ 46 :: y ++ r).drop (digsA l).length = 46 :: (y ++ r) := by
      rw [List.append_assoc, List.drop_left]; rfl
    rw [e2, heads_cons, List.tail_cons, digsA_run _ r hy (parted_dig hr), h.2]
    rfl
  · rw [if_neg h]
    rw [digsA_run _ r (digsA_all l) (parted_dig hr), List.drop_left, heads_parted hr rfl, Bool.false_and, if_neg (by decide)]
theorem numA_no (c : Nat) (t : List Nat) (h1 : digC c = false) (h2 : c = 46 → ∀ d, t.head? = some d → digC d = false) : numA (c :: t) = [] := by
  have e : digsA (c :: t) = [] := by unfold digsA; rw [List.takeWhile_cons_of_neg (by rw [h1]; decide)]
  unfold numA
  rw [e, List.length_nil, List.drop_zero, heads_cons, List.tail_cons]
  rw [if_neg]
  rw [Bool.and_eq_true]
  rintro ⟨h, h'⟩
  apply ne_empty h'
  have := h2 (by simpa using h)
  cases t with
  | nil => rfl
  | cons d u => unfold digsA; rw [List.takeWhile_cons_of_neg (by rw [this d rfl]; decide)]
theorem nameA_all (l : List Nat) : ∀ c ∈ nameA l, goC c = true := by
  cases l with
  | nil => intro c h; cases h
  | cons a t =>
    rw [nameA]
    by_cases hb : begC a = true
    · rw [if_pos hb]
      intro c hc
      rcases List.mem_cons.1 hc with rfl | hc
      · exact goC_of_beg hb
      · exact all_takeWhile goC t c hc
    · rw [if_neg hb]; intro c h; cases h
theorem nameA_run (l r : List Nat) (hr : ∀ c, r.head? = some c → goC c = false) (h : nameA l = l) (hn : l ≠ []) : nameA (l ++ r) = l := by
  cases l with
  | nil => exact absurd rfl hn
  | cons a t =>
    rw [nameA] at h
    by_cases hb : begC a = true
    · rw [if_pos hb] at h
      have ht : t.takeWhile goC = t := (List.cons.inj h).2
      show nameA (a :: (t ++ r)) = _
      rw [nameA, if_pos hb, takeWhile_run goC t r (fun c hc => all_takeWhile goC t c (by rw [ht]; exact hc)) hr]
    · rw [if_neg hb] at h; cases h
theorem takeWhile_twice (p : Nat → Bool) (l : List Nat) : (l.takeWhile p).takeWhile p = l.takeWhile p := by
  have := takeWhile_run p (l.takeWhile p) [] (all_takeWhile p l) (fun _ h => by cases h)
  simpa using this
theorem nameA_twice (l : List Nat) : nameA (nameA l) = nameA l := by
  cases l with
  | nil => rfl
  | cons a t =>
    by_cases hb : begC a = true
    · rw [nameA, if_pos hb, nameA, if_pos hb, takeWhile_twice]
    · rw [nameA, if_neg hb]; rfl
theorem nameA_re (l r : List Nat) (hr : ∀ c, r.head? = some c → goC c = false) (hn : nameA l ≠ []) : nameA (nameA l ++ r) = nameA l :=
  nameA_run (nameA l) r hr (nameA_twice l) hn
theorem nameA_pre (l : List Nat) : nameA l <+: l := by
  cases l with
  | nil => exact List.prefix_refl _
  | cons a t =>
    rw [nameA]
    by_cases hb : begC a = true
    · rw [if_pos hb]; exact List.cons_prefix_cons.2 ⟨rfl, List.takeWhile_prefix _⟩
    · rw [if_neg hb]; exact List.nil_prefix
theorem pre_drop {a l : List Nat} (h : a <+: l) : a ++ l.drop a.length = l := by
  obtain ⟨t, rfl⟩ := h
  rw [List.drop_left]
theorem go58 : goC 58 = false := by decide
theorem qnameA_eq (l : List Nat) : qnameA l = if !(nameA l).isEmpty && (heads 58 (l.drop (nameA l).length) && !(nameA (l.drop (nameA l).length).tail).isEmpty) then nameA l ++ 58 :: nameA (l.drop (nameA l).length).tail else nameA l := rfl
theorem qnameA_re (l r : List Nat) (hr : parted r) (hn : qnameA l ≠ []) : qnameA (qnameA l ++ r) = qnameA l := by
  unfold qnameA at hn ⊢
  by_cases h : (!(nameA l).isEmpty && (heads 58 (l.drop (nameA l).length) && !(nameA (l.drop (nameA l).length).tail).isEmpty)) = true
  · rw [if_pos h]
    simp only [Bool.and_eq_true] at h
    have hp := ne_empty h.1
    have hy2 := nameA_re (l.drop (nameA l).length).tail r (parted_go hr) (ne_empty h.2.2)
    generalize nameA (l.drop (nameA l).length).tail = y at *
    have e1 : nameA (nameA l ++ 58 :: y ++ r) = nameA l := by
      rw [List.append_assoc]
      exact nameA_re l _ (fun c hc => by cases hc; exact go58) hp
    have e2 : (nameA l ++ 58 :: y ++ r).drop (nameA l).length = 58 :: (y ++ r) := by
      rw [List.append_assoc, List.drop_left]; rfl
    rw [e1, e2, heads_cons, List.tail_cons, hy2, h.1, h.2.2]
    rfl
  · rw [if_neg h] at hn ⊢
    rw [nameA_re l r (parted_go hr) hn, List.drop_left, heads_parted hr rfl, Bool.false_and, Bool.and_false, if_neg (by decide)]
theorem nameA_no {c : Nat} (h : begC c = false) (t : List Nat) : nameA (c :: t) = [] := by rw [nameA, if_neg (by rw [h]; decide)]
theorem qnameA_no {c : Nat} (h : begC c = false) (t : List Nat) : qnameA (c :: t) = [] := by unfold qnameA; rw [nameA_no h t]; rfl
theorem isNm_nil : isNm [] = false := rfl
theorem wordA_no {c : Nat} (h : begC c = false) (h' : c ≠ 42) (t : List Nat) : wordA (c :: t) = [] := by
  unfold wordA
  rw [heads_cons, if_neg (by simpa using h'), qnameA_no h, isNm_nil, Bool.false_and, if_neg (by decide)]
theorem nameA_beg {l : List Nat} (h : nameA l ≠ []) : ∃ c t, l = c :: t ∧ begC c = true := by
  cases l with
  | nil => exact absurd rfl h
  | cons c t =>
    refine ⟨c, t, rfl, ?_⟩
    cases hb : begC c
    · exact absurd (nameA_no hb t) h
    · rfl
theorem qnameA_name {l : List Nat} (h : qnameA l ≠ []) : nameA l ≠ [] := fun e => h (by unfold qnameA; rw [e]; rfl)
theorem qnameA_pre (l : List Nat) : qnameA l <+: l := by
  unfold qnameA
  by_cases h : (!(nameA l).isEmpty && (heads 58 (l.drop (nameA l).length) && !(nameA (l.drop (nameA l).length).tail).isEmpty)) = true
  · rw [if_pos h]
    simp only [Bool.and_eq_true] at h
    have e := pre_drop (nameA_pre l)
    have e2 := heads_true h.2.1
    obtain ⟨t, ht⟩ := nameA_pre (l.drop (nameA l).length).tail
    refine ⟨t, ?_⟩
    rw [List.append_assoc, List.cons_append, ht, ← e2]
    exact e
  · rw [if_neg h]; exact nameA_pre l
theorem wordA_pre (l : List Nat) : wordA l <+: l := by
  unfold wordA
  split
  · rename_i h; rw [heads_true h]; exact List.cons_prefix_cons.2 ⟨rfl, List.nil_prefix⟩
  · split
    · rename_i h
      rw [Bool.and_eq_true] at h
      have e := pre_drop (qnameA_pre l)
      conv => rhs; rw [← e]
      exact (List.prefix_append_right_inj _).2 (List.isPrefixOf_iff_prefix.1 h.2)
    · exact qnameA_pre l
theorem isNm_name {l : List Nat} (h : isNm l = true) : l ≠ [] ∧ nameA l = l := by
  unfold isNm at h
  simp at h
  exact h
theorem wordA_re (l r : List Nat) (hr : parted r) (hn : wordA l ≠ []) : wordA (wordA l ++ r) = wordA l := by
  unfold wordA at hn ⊢
  by_cases h0 : heads 42 l = true
  · rw [if_pos h0]; rfl
  · rw [if_neg h0] at hn ⊢
    by_cases h : (isNm (qnameA l) && [58, 42].isPrefixOf (l.drop (qnameA l).length)) = true
    · rw [if_pos h] at hn ⊢
      rw [Bool.and_eq_true] at h
      obtain ⟨n1, n2⟩ := isNm_name h.1
      obtain ⟨c, t, e, hb⟩ := nameA_beg (n2 ▸ n1)
      have hq : qnameA (qnameA l ++ [58, 42] ++ r) = qnameA l := by
        have e1 : nameA (qnameA l ++ [58, 42] ++ r) = qnameA l := by
          rw [List.append_assoc]
          exact nameA_run _ _ (fun c hc => by cases hc; exact go58) n2 n1
        rw [qnameA_eq (qnameA l ++ [58, 42] ++ r), e1, List.append_assoc, List.drop_left]
        rw [show nameA (([58, 42] ++ r : List Nat)).tail = [] from nameA_no (by decide) _, List.isEmpty_nil, Bool.not_true, Bool.and_false, Bool.and_false, if_neg (by decide)]
      rw [hq, e, List.cons_append, List.cons_append, heads_cons, if_neg (by have := begC_ge hb; simp; omega), ← List.cons_append, ← List.cons_append, ← e, List.append_assoc, List.drop_left, h.1]
      rfl
    · rw [if_neg h] at hn ⊢
      obtain ⟨c, t, e, hb⟩ := nameA_beg (qnameA_name hn)
      have hq := qnameA_re l r hr hn
      obtain ⟨d, u, e'⟩ : ∃ d u, qnameA l = d :: u := by
        cases hx : qnameA l with
        | nil => exact absurd hx hn
        | cons d u => exact ⟨d, u, rfl⟩
      have hd : d = c := by
        have := qnameA_pre l
        rw [e', e] at this
        exact (List.cons_prefix_cons.1 this).1
      have hh : heads 42 (qnameA l ++ r) = false := by
        rw [e', List.cons_append, heads_cons, hd]
        have := begC_ge hb
        simp; omega
      rw [hq, hh, if_neg (by decide), List.drop_left, if_neg]
      rw [Bool.and_eq_true]
      rintro ⟨_, h2⟩
      cases r with
      | nil => cases h2
      | cons x y =>
        have := hr x rfl
        rw [List.isPrefixOf_iff_prefix] at h2
        have := (List.cons_prefix_cons.1 h2).1
        subst this
        cases hr 58 rfl
/-- The same token, perhaps with other signs around a string. -/
def alike (t t' : Tok) : Prop := t'.kind = t.kind ∧ t'.text = t.text ∧ (t'.raw = t.raw ∨ t.kind = 2 ∧ ∃ q, (q = 34 ∨ q = 39) ∧ q ∉ t.text ∧ t'.raw = q :: t.text ++ [q])
theorem strAt_some {q : Nat} {l t : List Nat} (h : strAt q l = some t) : q ∉ t ∧ (q :: t ++ [q]) <+: l := by
  unfold strAt at h
  split at h
  · rename_i hh
    rw [Bool.and_eq_true] at hh
    have hq : q ∈ l.tail := by simpa using hh.2
    cases h
    refine ⟨fun hm => by have := all_takeWhile (· != q) l.tail q hm; simp at this, ?_⟩
    have e := heads_true hh.1
    conv => rhs; rw [e]
    rw [List.cons_append]
    refine List.cons_prefix_cons.2 ⟨rfl, ?_⟩
    have hd : l.tail.takeWhile (· != q) ++ l.tail.dropWhile (· != q) = l.tail := List.takeWhile_append_dropWhile
    conv => rhs; rw [← hd]
    refine (List.prefix_append_right_inj _).2 ?_
    cases hx : l.tail.dropWhile (· != q) with
    | nil =>
      rw [hx, List.append_nil] at hd
      have := all_takeWhile (· != q) l.tail q (by rw [hd]; exact hq)
      simp at this
    | cons c u =>
      have := List.head_dropWhile_not (l := l.tail) (· != q) (by rw [hx]; simp)
      simp only [hx, List.head_cons] at this
      have hc : c = q := by simpa using this
      subst hc
      exact List.cons_prefix_cons.2 ⟨rfl, List.nil_prefix⟩
  · cases h
theorem strAt_quoted (q : Nat) (t r : List Nat) (h : q ∉ t) : strAt q (q :: t ++ [q] ++ r) = some t := by
  unfold strAt
  rw [if_pos (by simp [heads])]
  simp only [List.cons_append, List.tail_cons, List.append_assoc, List.nil_append]
  rw [takeWhile_run (· != q) t (q :: r) (fun c hc => by simp; intro e; exact h (e ▸ hc)) (fun c hc => by cases hc; simp)]
theorem strAt_other {q c : Nat} {t : List Nat} (h : c ≠ q) : strAt q (c :: t) = none := by
  unfold strAt
  rw [heads_cons, show (c == q) = false by simpa using h, Bool.false_and, if_neg (by decide)]
theorem varA_other {c : Nat} {t : List Nat} (h : c ≠ 36) : varA (c :: t) = none := by
  unfold varA
  rw [heads_cons, show (c == 36) = false by simpa using h, Bool.false_and, if_neg (by decide)]
/-- Which of the five ways a token is read by. -/
theorem tokA_cases {l : List Nat} {pl : Bool} {t : Tok} (h : tokA l pl = some t) :
    (numA l ≠ [] ∧ t = ⟨1, numA l, numA l⟩) ∨
    (∃ q x, (q = 34 ∨ q = 39) ∧ strAt q l = some x ∧ t = ⟨2, x, q :: x ++ [q]⟩) ∨
    (∃ x, varA l = some x ∧ t = ⟨7, x, 36 :: x⟩) ∨
    (∃ k, wordA l ≠ [] ∧ wordK (wordA l) (l.drop (wordA l).length) pl = some k ∧ t = ⟨k, wordA l, wordA l⟩) ∨
    (∃ k x, numA l = [] ∧ wordA l = [] ∧ signA l = some (k, x) ∧ t = ⟨k, x, x⟩) := by
  unfold tokA at h
  split at h
  · rename_i hn; cases h; exact .inl ⟨ne_empty hn, rfl⟩
  · rename_i hn
    split at h
    · rename_i x hx; cases h; exact .inr (.inl ⟨34, x, .inl rfl, hx, rfl⟩)
    · split at h
      · rename_i x hx; cases h; exact .inr (.inl ⟨39, x, .inr rfl, hx, rfl⟩)
      · split at h
        · rename_i x hx; cases h; exact .inr (.inr (.inl ⟨x, hx, rfl⟩))
        · split at h
          · rename_i hw
            cases hk : wordK (wordA l) (l.drop (wordA l).length) pl with
            | none => rw [hk] at h; cases h
            | some k => rw [hk] at h; cases h; exact .inr (.inr (.inr (.inl ⟨k, ne_empty hw, rfl, rfl⟩)))
          · rename_i hw
            cases hk : signA l with
            | none => rw [hk] at h; cases h
            | some k => rw [hk] at h; cases h; exact .inr (.inr (.inr (.inr ⟨k.1, k.2, by simpa using hn, by simpa using hw, rfl, rfl⟩)))
theorem signA_mem {l x : List Nat} {k : Nat} (h : signA l = some (k, x)) : (k, x) ∈ signL ∧ x <+: l := by
  unfold signA at h
  have h1 := List.find?_some h
  exact ⟨List.mem_of_find?_eq_some h, List.isPrefixOf_iff_prefix.1 h1⟩
theorem sign_first {k : Nat} {x : List Nat} (h : (k, x) ∈ signL) : ∃ c t, x = c :: t ∧ (c = 47 ∨ c = 33 ∨ c = 60 ∨ c = 62 ∨ c = 58 ∨ c = 46 ∨ c = 124 ∨ c = 43 ∨ c = 45 ∨ c = 61 ∨ c = 40 ∨ c = 41 ∨ c = 91 ∨ c = 93 ∨ c = 64 ∨ c = 44) ∧ (c = 46 → t = [] ∨ t = [46]) ∧ (c = 58 → t = [58]) ∧ (∀ d ∈ x, blankC d = false) := by
  simp only [signL, List.mem_cons, Prod.mk.injEq, List.not_mem_nil, or_false] at h
  rcases h with ⟨_, rfl⟩ | ⟨_, rfl⟩ | ⟨_, rfl⟩ | ⟨_, rfl⟩ | ⟨_, rfl⟩ | ⟨_, rfl⟩ | ⟨_, rfl⟩ | ⟨_, rfl⟩ | ⟨_, rfl⟩ | ⟨_, rfl⟩ | ⟨_, rfl⟩ | ⟨_, rfl⟩ | ⟨_, rfl⟩ | ⟨_, rfl⟩ | ⟨_, rfl⟩ | ⟨_, rfl⟩ | ⟨_, rfl⟩ | ⟨_, rfl⟩ | ⟨_, rfl⟩ | ⟨_, rfl⟩ <;>
    exact ⟨_, _, rfl, by decide, by decide, by decide, by decide⟩
theorem signA_re {k : Nat} {x : List Nat} (h : (k, x) ∈ signL) (r : List Nat) (hr : parted r) : signA (x ++ r) = some (k, x) := by
  have hr' : r = [] ∨ ∃ c t, r = c :: t ∧ (c = 9 ∨ c = 10 ∨ c = 13 ∨ c = 32) := by
    cases r with
    | nil => exact .inl rfl
    | cons c t => exact .inr ⟨c, t, rfl, blank_four (hr c rfl)⟩
  simp only [signL, List.mem_cons, Prod.mk.injEq, List.not_mem_nil, or_false] at h
  rcases h with ⟨rfl, rfl⟩ | ⟨rfl, rfl⟩ | ⟨rfl, rfl⟩ | ⟨rfl, rfl⟩ | ⟨rfl, rfl⟩ | ⟨rfl, rfl⟩ | ⟨rfl, rfl⟩ | ⟨rfl, rfl⟩ | ⟨rfl, rfl⟩ | ⟨rfl, rfl⟩ | ⟨rfl, rfl⟩ | ⟨rfl, rfl⟩ | ⟨rfl, rfl⟩ | ⟨rfl, rfl⟩ | ⟨rfl, rfl⟩ | ⟨rfl, rfl⟩ | ⟨rfl, rfl⟩ | ⟨rfl, rfl⟩ | ⟨rfl, rfl⟩ | ⟨rfl, rfl⟩ <;>
    rcases hr' with rfl | ⟨c, t, rfl, rfl | rfl | rfl | rfl⟩ <;> rfl
/-- What stands behind a token, as far as a word asks for it. -/
def lookEq (a b : List Nat) : Prop := heads 40 (a.dropWhile blankC) = heads 40 (b.dropWhile blankC) ∧ [58, 58].isPrefixOf (a.dropWhile blankC) = [58, 58].isPrefixOf (b.dropWhile blankC)
theorem wordK_look (w a b : List Nat) (pl : Bool) (h : lookEq a b) : wordK w a pl = wordK w b pl := by
  unfold wordK
  rw [h.1, h.2]
theorem tokA_num {l : List Nat} (pl : Bool) (h : numA l ≠ []) : tokA l pl = some ⟨1, numA l, numA l⟩ := by
  unfold tokA
  rw [if_pos (empty_not h)]
theorem tokA_str34 {l x : List Nat} (pl : Bool) (hn : numA l = []) (h : strAt 34 l = some x) : tokA l pl = some ⟨2, x, 34 :: x ++ [34]⟩ := by
  unfold tokA
  rw [hn, h]; rfl
theorem tokA_str39 {l x : List Nat} (pl : Bool) (hn : numA l = []) (h0 : strAt 34 l = none) (h : strAt 39 l = some x) : tokA l pl = some ⟨2, x, 39 :: x ++ [39]⟩ := by
  unfold tokA
  rw [hn, h0, h]; rfl
theorem tokA_var {l x : List Nat} (pl : Bool) (hn : numA l = []) (h0 : strAt 34 l = none) (h1 : strAt 39 l = none) (h : varA l = some x) : tokA l pl = some ⟨7, x, 36 :: x⟩ := by
  unfold tokA
  rw [hn, h0, h1, h]; rfl
theorem tokA_word {l : List Nat} (pl : Bool) (hn : numA l = []) (h0 : strAt 34 l = none) (h1 : strAt 39 l = none) (h2 : varA l = none) (h : wordA l ≠ []) :
    tokA l pl = (wordK (wordA l) (l.drop (wordA l).length) pl).map (fun k => ⟨k, wordA l, wordA l⟩) := by
  unfold tokA
  rw [hn, h0, h1, h2]
  simp only [List.isEmpty_nil, Bool.not_true]
  rw [if_neg (by decide), if_pos (empty_not h)]
theorem tokA_sign {l : List Nat} (pl : Bool) (hn : numA l = []) (h0 : strAt 34 l = none) (h1 : strAt 39 l = none) (h2 : varA l = none) (h : wordA l = []) :
    tokA l pl = (signA l).map (fun x => ⟨x.1, x.2, x.2⟩) := by
  unfold tokA
  rw [hn, h0, h1, h2, h]
  rfl
theorem tokA_quoted (q : Nat) (hq : q = 34 ∨ q = 39) (x r : List Nat) (pl : Bool) (h : q ∉ x) : tokA (q :: x ++ [q] ++ r) pl = some ⟨2, x, q :: x ++ [q]⟩ := by
  have hs := strAt_quoted q x r h
  have hn : numA (q :: x ++ [q] ++ r) = [] := by
    rw [List.cons_append, List.cons_append]
    exact numA_no q _ (by rcases hq with rfl | rfl <;> rfl) (fun e => by omega)
  rcases hq with rfl | rfl
  · exact tokA_str34 pl hn hs
  · exact tokA_str39 pl hn (by rw [List.cons_append, List.cons_append]; exact strAt_other (by decide)) hs
theorem wordA_head {l : List Nat} (h : wordA l ≠ []) : ∃ c t, wordA l = c :: t ∧ (c = 42 ∨ begC c = true) ∧ l.head? = some c := by
  obtain ⟨c, t, e⟩ : ∃ c t, wordA l = c :: t := by
    cases hx : wordA l with
    | nil => exact absurd hx h
    | cons d u => exact ⟨d, u, rfl⟩
  have hp := wordA_pre l
  rw [e] at hp
  obtain ⟨u, rfl⟩ := hp
  refine ⟨c, t, e, ?_, rfl⟩
  by_cases hb : begC c = true
  · exact .inr hb
  · by_cases h42 : c = 42
    · exact .inl h42
    · exact absurd (wordA_no (by simpa using hb) h42 (t ++ u)) h
/-- A token, parted from what follows, is read as it was. -/
theorem tokA_re {l : List Nat} {pl : Bool} {t t' : Tok} (h : tokA l pl = some t) (ha : alike t t') (r : List Nat) (hr : parted r) (hl : lookEq (l.drop t.raw.length) r) : tokA (t'.raw ++ r) pl = some t' := by
  obtain ⟨k', x', w'⟩ := t'
  obtain ⟨a1, a2, a3⟩ := ha
  simp only at a1 a2 a3 ⊢
  subst a1 a2
  rcases tokA_cases h with ⟨hn, rfl⟩ | ⟨q, x, hq, hs, rfl⟩ | ⟨x, hv, rfl⟩ | ⟨k, hw, hk, rfl⟩ | ⟨k, x, hn, hw, hk, rfl⟩
  · rcases a3 with rfl | ⟨e, _⟩
    · have := numA_re l r hr
      rw [tokA_num pl (by rw [this]; exact hn), this]
    · cases e
  · have hx := (strAt_some hs).1
    rcases a3 with rfl | ⟨_, q', hq', hx', rfl⟩
    · exact tokA_quoted q hq x r pl hx
    · exact tokA_quoted q' hq' x r pl hx'
  · rcases a3 with rfl | ⟨e, _⟩
    · unfold varA at hv
      split at hv
      · rename_i hh
        rw [Bool.and_eq_true] at hh
        cases hv
        have hq := ne_empty hh.2
        refine tokA_var pl (numA_no 36 _ rfl (fun e => by cases e)) (strAt_other (by decide)) (strAt_other (by decide)) ?_
        unfold varA
        rw [List.cons_append, heads_cons, List.tail_cons, qnameA_re _ r hr hq, hh.2]
        rfl
      · cases hv
    · cases e
  · rcases a3 with rfl | ⟨e, q, _, _, e'⟩
    · simp only at hl ⊢
      have hre := wordA_re l r hr hw
      obtain ⟨c, u, e, hc, _⟩ := wordA_head hw
      have hd : digC c = false ∧ c ≠ 46 ∧ c ≠ 34 ∧ c ≠ 39 ∧ c ≠ 36 := by
        rcases hc with rfl | hb
        · decide
        · have := begC_ge hb
          refine ⟨?_, by omega, by omega, by omega, by omega⟩
          simp [digC]; omega
      have e2 : wordA l ++ r = c :: (u ++ r) := by rw [e]; rfl
      rw [tokA_word pl (by rw [e2]; exact numA_no c _ hd.1 (fun e => absurd e hd.2.1)) (by rw [e2]; exact strAt_other hd.2.2.1) (by rw [e2]; exact strAt_other hd.2.2.2.1) (by rw [e2]; exact varA_other hd.2.2.2.2) (by rw [hre]; exact hw), hre, List.drop_left,
        ← wordK_look _ _ _ pl hl, hk]
      rfl
    · exfalso
      simp only at e
      unfold wordK at hk
      subst e
      repeat' split at hk
      all_goals cases hk
  · rcases a3 with a3 | ⟨e, q, _, _, e'⟩
    · simp only at a3 ⊢
      rw [a3]
      obtain ⟨hm, _⟩ := signA_mem hk
      obtain ⟨c, u, e, hc, hc2, _⟩ := sign_first hm
      have e2 : x ++ r = c :: (u ++ r) := by rw [e]; rfl
      have hn' : numA (x ++ r) = [] := by
        rw [e2]
        refine numA_no c _ (by simp [digC]; omega) (fun h46 d hd => ?_)
        rcases hc2 h46 with rfl | rfl
        · exact blank_dig (hr d hd)
        · cases hd; rfl
      have hb : begC c = false := by
        cases hb : begC c
        · rfl
        · have h1 := begC_ge hb
          have h2 := begC_ne hb
          omega
      rw [tokA_sign pl hn' (by rw [e2]; exact strAt_other (by omega)) (by rw [e2]; exact strAt_other (by omega)) (by rw [e2]; exact varA_other (by omega)) (by rw [e2]; exact wordA_no hb (by omega) _), signA_re hm r hr]
      rfl
    · exfalso
      simp only at e
      subst e
      obtain ⟨hm, _⟩ := signA_mem hk
      simp [signL] at hm
end Go.Proofs.YtkklapoceknbcaaGreatDoor
/- The digits, the name that a text begins with: xplex's digitsAhead and nameAhead. -/
namespace Go.Proofs.YtkklapoceknbcaaGreatDoor
open Go.RowKit
theorem digsA_stop (p t : List Nat) (c : Nat) (hp : ∀ x ∈ p, digC x = true) (hc : digC c = false) : digsA (p ++ c :: t) = p := digsA_run p (c :: t) hp (fun x hx => by cases hx; exact hc)
theorem digsA_whole (p : List Nat) (hp : ∀ x ∈ p, digC x = true) : digsA p = p := by
  have := digsA_run p [] hp (fun x hx => by cases hx)
  rwa [List.append_nil] at this
theorem nameA_one {c : Nat} (h : begC c = true) : nameA [c] = [c] := by rw [nameA, if_pos h]; rfl
theorem nameA_snoc {p : List Nat} {c : Nat} (hp : nameA p = p) (h0 : p ≠ []) (hc : goC c = true) : nameA (p ++ [c]) = p ++ [c] := by
  cases p with
  | nil => exact absurd rfl h0
  | cons a t =>
    rw [nameA] at hp
    by_cases hb : begC a = true
    · rw [if_pos hb] at hp
      have ht : t.takeWhile goC = t := (List.cons.inj hp).2
      show nameA (a :: (t ++ [c])) = a :: (t ++ [c])
      rw [nameA, if_pos hb, List.takeWhile_append_of_pos (fun x hx => all_takeWhile goC t x (by rw [ht]; exact hx)), List.takeWhile_cons_of_pos hc]
      rfl
    · rw [if_neg hb] at hp; cases hp
end Go.Proofs.YtkklapoceknbcaaGreatDoor
/- A text's tokens: where they stand, and that they are read again as they were if they are parted by blanks: plain lemmas. -/
namespace Go.Proofs.YtkklapoceknbcaaGreatDoor
/-- How a token stands in its characters. -/
def formed (t : Tok) : Prop := (t.kind = 2 ∧ ∃ q, (q = 34 ∨ q = 39) ∧ q ∉ t.text ∧ t.raw = q :: t.text ++ [q]) ∨ (t.kind = 7 ∧ t.raw = 36 :: t.text ∧ t.text ≠ [] ∧ ∀ c ∈ t.text, blankC c = false) ∨ (t.kind ≠ 2 ∧ t.kind ≠ 7 ∧ t.raw = t.text ∧ t.text ≠ [] ∧ ∀ c ∈ t.text, blankC c = false)
theorem dig_blank {c : Nat} (h : digC c = true) : blankC c = false := by
  cases hb : blankC c
  · rfl
  · rw [blank_dig hb] at h; cases h
theorem go_blank {c : Nat} (h : goC c = true) : blankC c = false := by
  cases hb : blankC c
  · rfl
  · rw [blank_go hb] at h; cases h
theorem numA_blank (l : List Nat) : ∀ c ∈ numA l, blankC c = false := by
  unfold numA
  split
  · intro c hc
    rcases List.mem_append.1 hc with hc | hc
    · exact dig_blank (digsA_all _ c hc)
    · rcases List.mem_cons.1 hc with rfl | hc
      · rfl
      · exact dig_blank (digsA_all _ c hc)
  · exact fun c hc => dig_blank (digsA_all _ c hc)
theorem qnameA_blank (l : List Nat) : ∀ c ∈ qnameA l, blankC c = false := by
  unfold qnameA
  split
  · intro c hc
    rcases List.mem_append.1 hc with hc | hc
    · exact go_blank (nameA_all _ c hc)
    · rcases List.mem_cons.1 hc with rfl | hc
      · rfl
      · exact go_blank (nameA_all _ c hc)
  · exact fun c hc => go_blank (nameA_all _ c hc)
theorem wordA_blank (l : List Nat) : ∀ c ∈ wordA l, blankC c = false := by
  unfold wordA
  split
  · intro c hc; rw [List.mem_singleton.1 hc]; rfl
  · split
    · intro c hc
      rcases List.mem_append.1 hc with hc | hc
      · exact qnameA_blank l c hc
      · simp at hc; rcases hc with rfl | rfl <;> rfl
    · exact qnameA_blank l
theorem numA_pre (l : List Nat) : numA l <+: l := by
  unfold numA
  by_cases h : (heads 46 (l.drop (digsA l).length) && !(digsA (l.drop (digsA l).length).tail).isEmpty) = true
  · rw [if_pos h]
    rw [Bool.and_eq_true] at h
    have e := digsA_pre l
    have e2 := heads_true h.1
    refine ⟨(l.drop (digsA l).length).tail.drop (digsA (l.drop (digsA l).length).tail).length, ?_⟩
    rw [List.append_assoc, List.cons_append, digsA_pre, ← e2]
    exact e
  · rw [if_neg h]; exact List.takeWhile_prefix _
theorem wordK_kinds {w b : List Nat} {pl : Bool} {k : Nat} (h : wordK w b pl = some k) : k ≠ 2 ∧ k ≠ 7 := by
  unfold wordK at h
  repeat' split at h
  all_goals (cases h)
  all_goals decide
theorem tokA_formed {l : List Nat} {pl : Bool} {t : Tok} (h : tokA l pl = some t) : formed t ∧ t.raw <+: l := by
  rcases tokA_cases h with ⟨hn, rfl⟩ | ⟨q, x, hq, hs, rfl⟩ | ⟨x, hv, rfl⟩ | ⟨k, hw, hk, rfl⟩ | ⟨k, x, hn, hw, hk, rfl⟩
  · exact ⟨.inr (.inr ⟨show 1 ≠ 2 by decide, show 1 ≠ 7 by decide, rfl, hn, numA_blank l⟩), numA_pre l⟩
  · obtain ⟨h1, h2⟩ := strAt_some hs
    exact ⟨.inl ⟨rfl, q, hq, h1, rfl⟩, h2⟩
  · unfold varA at hv
    split at hv
    · rename_i hh
      rw [Bool.and_eq_true] at hh
      cases hv
      refine ⟨.inr (.inl ⟨rfl, rfl, ne_empty hh.2, qnameA_blank _⟩), ?_⟩
      have e := heads_true hh.1
      conv => rhs; rw [e]
      exact List.cons_prefix_cons.2 ⟨rfl, qnameA_pre _⟩
    · cases hv
  · obtain ⟨k2, k7⟩ := wordK_kinds hk
    exact ⟨.inr (.inr ⟨k2, k7, rfl, hw, wordA_blank l⟩), wordA_pre l⟩
  · obtain ⟨hm, hp⟩ := signA_mem hk
    obtain ⟨c, u, rfl, _, _, _, hb⟩ := sign_first hm
    refine ⟨.inr (.inr ⟨?_, ?_, rfl, by simp, hb⟩), hp⟩ <;> · rintro rfl; simp [signL] at hm
theorem formed_ends {t : Tok} (h : formed t) : ∃ c d a, blankC c = false ∧ blankC d = false ∧ t.raw.head? = some c ∧ t.raw = a ++ [d] := by
  have key : ∀ x : List Nat, x ≠ [] → (∀ c ∈ x, blankC c = false) → ∃ c d a, blankC c = false ∧ blankC d = false ∧ x.head? = some c ∧ x = a ++ [d] := by
    intro x hx hb
    cases x with
    | nil => exact absurd rfl hx
    | cons c u => exact ⟨c, (c :: u).getLast hx, (c :: u).dropLast, hb c (by simp), hb _ (List.getLast_mem hx), rfl, (List.dropLast_concat_getLast hx).symm⟩
  rcases h with ⟨_, q, hq, _, e⟩ | ⟨_, e, h0, hb⟩ | ⟨_, _, e, h0, hb⟩
  · have hbq : blankC q = false := by rcases hq with rfl | rfl <;> rfl
    exact ⟨q, q, q :: t.text, hbq, hbq, by rw [e]; rfl, e⟩
  · exact key _ (by rw [e]; simp) (by rw [e]; intro c hc; rcases List.mem_cons.1 hc with rfl | hc; rfl; exact hb c hc)
  · rw [e]; exact key _ h0 hb
theorem formed_ne {t : Tok} (h : formed t) : t.raw ≠ [] := by
  obtain ⟨c, d, a, _, _, _, e⟩ := formed_ends h
  rw [e]; simp
theorem formed_alike {t t' : Tok} (h : formed t) (ha : alike t t') : formed t' := by
  obtain ⟨a1, a2, a3⟩ := ha
  obtain ⟨k, x, r⟩ := t
  obtain ⟨k', x', r'⟩ := t'
  simp only at a1 a2
  subst a1 a2
  rcases a3 with a3 | ⟨hk, q, hq, hx, a3⟩
  · simp only at a3; subst a3; exact h
  · exact .inl ⟨hk, q, hq, hx, a3⟩
/-- Tokens that stand one behind the other, with blanks between. -/
def Laid (n : List Nat → Nat) : List Nat → List Nat → List (Tok × Nat) → Prop
  | _, l, [] => ∀ c ∈ l, blankC c = true
  | pre, l, x :: ts => formed x.1 ∧ ∃ b r, (∀ c ∈ b, blankC c = true) ∧ l = b ++ x.1.raw ++ r ∧ x.2 = n (pre ++ b) ∧ Laid n (pre ++ b ++ x.1.raw) r ts
theorem blanks_ahead (l : List Nat) : ∀ c, (l.dropWhile blankC).head? = some c → blankC c = false := by
  intro c hc
  cases hx : l.dropWhile blankC with
  | nil => rw [hx] at hc; cases hc
  | cons d u =>
    rw [hx] at hc; cases hc
    have := List.head_dropWhile_not (l := l) blankC (by rw [hx]; simp)
    simpa only [hx, List.head_cons, Bool.not_eq_true] using this
theorem scan_more (n : List Nat → Nat) : ∀ f acc pre l R, scanA n f acc pre l = .ok R → ∃ ts, R = acc ++ ts
  | 0, acc, _, _, R, h => ⟨[], by cases h; simp⟩
  | f + 1, acc, pre, l, R, h => by
    rw [scanA] at h
    split at h
    · cases h; exact ⟨[], by simp⟩
    · split at h
      · cases h
      · obtain ⟨ts, rfl⟩ := scan_more n f _ _ _ R h
        exact ⟨_ :: ts, by rw [List.append_assoc]; rfl⟩
/-- One step of the scan. -/
theorem scan_step (n : List Nat → Nat) (f : Nat) (acc ts : List (Tok × Nat)) (pre l : List Nat) (h : scanA n (f + 1) acc pre l = .ok (acc ++ ts)) (hl : l.length < f + 1) :
    (l.dropWhile blankC = [] ∧ ts = []) ∨ ∃ t ts1 r, tokA (l.dropWhile blankC) (plOf acc) = some t ∧ formed t ∧ l.dropWhile blankC = t.raw ++ r ∧ ts = (t, n (pre ++ l.takeWhile blankC)) :: ts1 ∧ r.length < f ∧
      scanA n f (acc ++ [(t, n (pre ++ l.takeWhile blankC))]) (pre ++ l.takeWhile blankC ++ t.raw) r = .ok (acc ++ [(t, n (pre ++ l.takeWhile blankC))] ++ ts1) := by
  rw [scanA] at h
  split at h
  · rename_i he
    refine .inl ⟨by simpa using he, ?_⟩
    cases h' : ts with
    | nil => rfl
    | cons a b =>
      rw [h'] at h
      have := congrArg (fun x => match x with | Except.ok y => y.length | .error _ => 0) h
      simp at this
  · rename_i he
    split at h
    · cases h
    · rename_i t ht
      obtain ⟨hf, hp⟩ := tokA_formed ht
      obtain ⟨r, hr⟩ := hp
      rw [← hr, List.drop_left] at h
      obtain ⟨ts1, e⟩ := scan_more n f _ _ _ _ h
      have ets : ts = (t, n (pre ++ l.takeWhile blankC)) :: ts1 := by
        rw [List.append_assoc] at e
        exact List.append_cancel_left e
      refine .inr ⟨t, ts1, r, ht, hf, hr.symm, ets, ?_, by rw [h, e]⟩
      have h1 := congrArg List.length hr
      have h2 : (l.dropWhile blankC).length ≤ l.length := by
        have := congrArg List.length (List.takeWhile_append_dropWhile (p := blankC) (l := l))
        rw [List.length_append] at this
        omega
      have h3 : 0 < t.raw.length := List.length_pos_iff.2 (formed_ne hf)
      rw [List.length_append] at h1
      omega
theorem scan_laid (n : List Nat → Nat) : ∀ f acc pre l ts, scanA n f acc pre l = .ok (acc ++ ts) → l.length < f → Laid n pre l ts
  | 0, _, _, l, _, _, hl => absurd hl (by omega)
  | f + 1, acc, pre, l, ts, h, hl => by
    rcases scan_step n f acc ts pre l h hl with ⟨he, rfl⟩ | ⟨t, ts1, r, ht, hf, hr, rfl, hlr, hs⟩
    · intro c hc
      have e := List.takeWhile_append_dropWhile (p := blankC) (l := l)
      rw [he, List.append_nil] at e
      rw [← e] at hc
      exact all_takeWhile blankC l c hc
    · refine ⟨hf, l.takeWhile blankC, r, all_takeWhile blankC l, ?_, rfl, scan_laid n f _ _ r ts1 hs hlr⟩
      have e := List.takeWhile_append_dropWhile (p := blankC) (l := l)
      rw [hr] at e
      rw [List.append_assoc]
      exact e.symm
/-- Each token: where it stands, and what stands between it and the next one. -/
theorem laid_at (n : List Nat → Nat) : ∀ ts pre l, Laid n pre l ts → ∀ i x, ts[i]? = some x → formed x.1 ∧ ∃ p b r, pre ++ l = p ++ x.1.raw ++ b ++ r ∧ x.2 = n p ∧ (∀ c ∈ b, blankC c = true) ∧
      (ts[i + 1]? = none → r = []) ∧ (∀ y, ts[i + 1]? = some y → y.2 = n (p ++ x.1.raw ++ b) ∧ ∃ r', r = y.1.raw ++ r')
  | [], _, _, _, i, x, hx => by simp at hx
  | x0 :: ts, pre, l, ⟨hf, b0, r0, hb0, el, ha, hL⟩, 0, x, hx => by
    subst el
    simp at hx
    subst hx
    refine ⟨hf, ?_⟩
    cases ts with
    | nil => exact ⟨pre ++ b0, r0, [], by simp, ha, hL, fun _ => rfl, fun y hy => by simp at hy⟩
    | cons y ts =>
      obtain ⟨hfy, b1, r1, hb1, rfl, ha1, hL1⟩ := hL
      refine ⟨pre ++ b0, b1, y.1.raw ++ r1, by simp, ha, hb1, fun h => by simp at h, fun z hz => ?_⟩
      simp at hz
      subst hz
      exact ⟨by simpa using ha1, r1, rfl⟩
  | x0 :: ts, pre, l, ⟨hf, b0, r0, hb0, el, ha, hL⟩, i + 1, x, hx => by
    subst el
    simp only [List.getElem?_cons_succ] at hx ⊢
    obtain ⟨h1, p, b, r, e, h2, h3, h4, h5⟩ := laid_at n ts _ _ hL i x hx
    exact ⟨h1, p, b, r, by rw [← e]; simp, h2, h3, h4, h5⟩
/-- Tokens laid anew, parted by blanks. -/
inductive Resp : List Tok → List Tok → List Nat → Prop
  | nil (b : List Nat) : (∀ c ∈ b, blankC c = true) → Resp [] [] b
  | cons (b : List Nat) (t t' : Tok) (ts ts' : List Tok) (N : List Nat) : (∀ c ∈ b, blankC c = true) → alike t t' → Resp ts ts' N → parted N → Resp (t :: ts) (t' :: ts') (b ++ t'.raw ++ N)
theorem drop_blanks {b x : List Nat} (hb : ∀ c ∈ b, blankC c = true) (hx : ∀ c, x.head? = some c → blankC c = false) : (b ++ x).dropWhile blankC = x ∧ (b ++ x).takeWhile blankC = b :=
  ⟨dropWhile_run blankC b x hb hx, takeWhile_run blankC b x hb hx⟩
theorem drop_all_blanks {b : List Nat} (hb : ∀ c ∈ b, blankC c = true) : b.dropWhile blankC = [] := by
  have := (drop_blanks hb (x := []) (fun _ h => by cases h)).1
  simpa using this
theorem raw_head {t : Tok} (h : formed t) (N : List Nat) : ∀ c, (t.raw ++ N).head? = some c → blankC c = false := by
  obtain ⟨c, d, a, h1, _, h2, _⟩ := formed_ends h
  intro x hx
  rw [List.head?_append, h2] at hx
  cases hx; exact h1
theorem heads_app {c : Nat} {x y : List Nat} (h : x ≠ []) : heads c (x ++ y) = heads c x := by
  cases x with
  | nil => exact absurd rfl h
  | cons d u => rfl
/-- What a word asks of what follows does not hang on how the next token is laid. -/
theorem look_tok {m : List Nat} {pl : Bool} {t t' : Tok} (h : tokA m pl = some t) (ha : alike t t') (N : List Nat) : heads 40 m = heads 40 (t'.raw ++ N) ∧ [58, 58].isPrefixOf m = [58, 58].isPrefixOf (t'.raw ++ N) := by
  obtain ⟨hf, r, hr⟩ := tokA_formed h
  have hne := formed_ne hf
  have hne' := formed_ne (formed_alike hf ha)
  have hh : ∀ c, c ≠ 34 → c ≠ 39 → heads c m = heads c t'.raw := by
    intro c h1 h2
    rw [← hr, heads_app hne]
    rcases ha.2.2 with e | ⟨hk, q, hq, _, e⟩
    · rw [e]
    · rcases hf with ⟨_, q2, hq2, _, e2⟩ | ⟨h7, _⟩ | ⟨h7, _⟩
      · rw [e, e2, List.cons_append, List.cons_append, heads_cons, heads_cons]
        have : (q2 == c) = false := by rcases hq2 with rfl | rfl <;> simp <;> omega
        have h3 : (q == c) = false := by rcases hq with rfl | rfl <;> simp <;> omega
        rw [this, h3]
      · omega
      · exact absurd hk h7
  refine ⟨by rw [hh 40 (by decide) (by decide), heads_app hne'], ?_⟩
  have h58 := hh 58 (by decide) (by decide)
  by_cases hm : heads 58 m = true
  · have e := heads_true hm
    generalize m.tail = u at *
    rcases tokA_cases h with ⟨hn, rfl⟩ | ⟨q, x, hq, hs, rfl⟩ | ⟨x, hv, rfl⟩ | ⟨k, hw, hk, rfl⟩ | ⟨k, x, hn, hw, hk, rfl⟩
    · rw [e, numA_no 58 _ rfl (fun e => by cases e)] at hn; exact absurd rfl hn
    · rw [e, strAt_other (by omega)] at hs; cases hs
    · rw [e, varA_other (by decide)] at hv; cases hv
    · rw [e, wordA_no (by decide) (by decide)] at hw; exact absurd rfl hw
    · obtain ⟨hm2, hp⟩ := signA_mem hk
      obtain ⟨c, v, rfl, _, _, h2, _⟩ := sign_first hm2
      have hc : c = 58 := by
        rw [e] at hp
        exact (List.cons_prefix_cons.1 hp).1
      subst hc
      rw [h2 rfl] at hr ha
      have er : t'.raw = [58, 58] := by
        rcases ha.2.2 with e3 | ⟨e3, _⟩
        · exact e3
        · simp only at e3; subst e3; simp [signL] at hm2
      rw [er, ← hr]
      rfl
  · have hm' : heads 58 m = false := by simpa using hm
    have key : ∀ y, heads 58 y = false → [58, 58].isPrefixOf y = false := by
      intro y hy
      cases y with
      | nil => rfl
      | cons c v =>
        rw [heads_cons] at hy
        have hc : c ≠ 58 := by simpa using hy
        have : ([58, 58] : List Nat).isPrefixOf (c :: v) = ((58 == c) && [58].isPrefixOf v) := rfl
        rw [this, show ((58 : Nat) == c) = false by simpa using Ne.symm hc]
        rfl
    rw [key m hm', key _ (by rw [heads_app hne', ← h58]; exact hm')]
theorem look_scan (n : List Nat → Nat) (f : Nat) (acc ts : List (Tok × Nat)) (pre l : List Nat) (ts' : List Tok) (N : List Nat) (h : scanA n f acc pre l = .ok (acc ++ ts)) (hl : l.length < f) (hR : Resp (ts.map (·.1)) ts' N) : lookEq l N := by
  cases f with
  | zero => omega
  | succ f =>
    rcases scan_step n f acc ts pre l h hl with ⟨he, rfl⟩ | ⟨t, ts1, r, ht, hf, hr, rfl, hlr, hs⟩
    · cases hR with
      | nil b hb => unfold lookEq; rw [he, drop_all_blanks hb]; exact ⟨rfl, rfl⟩
    · cases hR with
      | cons b t t' ts2 ts2' N1 hb ha hR2 hp =>
        unfold lookEq
        rw [List.append_assoc, (drop_blanks hb (raw_head (formed_alike hf ha) N1)).1]
        exact look_tok ht ha N1
theorem plOf_snoc (acc : List (Tok × Nat)) (x : Tok × Nat) : plOf (acc ++ [x]) = behindOp x.1 := by
  unfold plOf; rw [List.getLast?_concat]
theorem respace (n n' : List Nat → Nat) : ∀ f acc pre l ts acc' pre' f' ts' N, scanA n f acc pre l = .ok (acc ++ ts) → l.length < f → Resp (ts.map (·.1)) ts' N → N.length < f' → plOf acc = plOf acc' →
    ∃ res, scanA n' f' acc' pre' N = .ok (acc' ++ res) ∧ res.map (·.1) = ts'
  | 0, _, _, l, _, _, _, _, _, _, _, hl, _, _, _ => absurd hl (by omega)
  | f + 1, acc, pre, l, ts, acc', pre', f', ts', N, h, hl, hR, hN, hpl => by
    cases f' with
    | zero => omega
    | succ f' =>
      rcases scan_step n f acc ts pre l h hl with ⟨he, rfl⟩ | ⟨t, ts1, r, ht, hf, hr, rfl, hlr, hs⟩
      · cases hR with
        | nil b hb => exact ⟨[], by rw [scanA, drop_all_blanks hb]; simp, rfl⟩
      · cases hR with
        | cons b t t' ts2 ts2' N1 hb ha hR2 hp =>
          have hf' := formed_alike hf ha
          have hd := drop_blanks hb (raw_head hf' N1)
          have hlook := look_scan n f _ ts1 _ r _ N1 hs hlr hR2
          have htok : tokA (t'.raw ++ N1) (plOf acc') = some t' := by
            rw [← hpl]
            exact tokA_re ht ha N1 hp (by rw [hr, List.drop_left]; exact hlook)
          have hne := formed_ne hf'
          have hlen : N1.length < f' := by
            have h3 : 0 < t'.raw.length := List.length_pos_iff.2 hne
            rw [List.length_append, List.length_append] at hN
            omega
          obtain ⟨res, e1, e2⟩ := respace n n' f _ _ r ts1 (acc' ++ [(t', n' (pre' ++ b))]) (pre' ++ b ++ t'.raw) f' ts2' N1 hs hlr hR2 hlen (by rw [plOf_snoc, plOf_snoc]; unfold behindOp; rw [ha.1, ha.2.1])
          refine ⟨(t', n' (pre' ++ b)) :: res, ?_, by rw [List.map_cons, e2]⟩
          rw [List.append_assoc b, scanA, hd.1, hd.2, if_neg (by cases hx : t'.raw with | nil => exact absurd hx hne | cons _ _ => simp), htok]
          simp only
          rw [List.drop_left, e1, List.append_assoc]
          rfl
end Go.Proofs.YtkklapoceknbcaaGreatDoor
/- The number, the name, the string, the variable, the word that a text begins with: xplex's functions. -/
namespace Go.Proofs.YtkklapoceknbcaaGreatDoor
open Go.RowKit
theorem cutPrefix_one (q : Nat) (u : UInt8) (hu : u = UInt8.ofNat q) (hq : q < 128) (l : List Nat) (hl : okL l) (w : World) :
    Calls Tryz.prog 34 #[.string (T l), .string ⟨#[u]⟩] w fun e w' => e = .returned (.tuple #[.string (T (if heads q l then l.tail else l)), .bool (heads q l)]) ∧ w' = w := by
  subst hu
  refine (Tryz.strings_CutPrefix (T l) ⟨#[UInt8.ofNat q]⟩ w).mono ?_
  rintro e w' ⟨rfl, rfl⟩
  refine ⟨?_, rfl⟩
  rw [T_data, show (⟨#[UInt8.ofNat q]⟩ : ByteArray).data.toList = [UInt8.ofNat q] from rfl, pre_one hq hl, cut_one hq hl]
  rfl
theorem suf_drop {l a : List Nat} (h : a <+: l) : (T l).extract (T a).size (T l).size = T (l.drop a.length) := by
  obtain ⟨t, rfl⟩ := h
  rw [List.drop_left]; exact T_suf a t
theorem size_pre {l a : List Nat} (h : a <+: l) : (T a).size ≤ (T l).size := by
  obtain ⟨t, rfl⟩ := h
  rw [T_size, T_size, tx_len_app]; omega
theorem pre_sz {l a : List Nat} (h : a <+: l) {n : Nat} (hn : n = (T a).size) : (T l).extract 0 n = T a := by
  obtain ⟨t, rfl⟩ := h
  rw [hn]; exact T_pre a t
theorem sz_cons {c : Nat} (hc : c < 128) (l : List Nat) : (T (c :: l)).size = 1 + (T l).size := by
  rw [T_size, T_size, tx_cons, List.length_append, runeB_one hc]; rfl
theorem sz_app (a b : List Nat) : (T (a ++ b)).size = (T a).size + (T b).size := by rw [T_size, T_size, T_size, tx_len_app]
theorem nil_T {l : List Nat} (h : l = []) : (T l).toList = [] := by rw [h, T_toList]; rfl
theorem ne_T {l : List Nat} (hl : okL l) (h : l ≠ []) : (T l).toList.isEmpty = false := by
  cases hx : (T l).toList with
  | nil => exact absurd ((T_empty hl).1 hx) h
  | cons _ _ => rfl
end Go.Proofs.YtkklapoceknbcaaGreatDoor
/- A name has no colon, so a prefix and a local name are parted at the colon between them. -/
namespace Go.Proofs.YtkklapoceknbcaaGreatDoor
open Go.RowKit
theorem colon_no : goesB 58 = false := by decide +kernel
theorem nameFrom_colon (s : ByteArray) : ∀ (f pos : Nat), s.size < pos + f → nameFrom s f pos = true → ∀ i, pos ≤ i → i < s.size → (s.get! i).toNat ≠ 58
  | 0, pos, hb, _, i, h1, h2 => by omega
  | f + 1, pos, hb, h, i, h1, h2 => by
    have hp : pos < s.size := by omega
    obtain ⟨d1, d2, d3⟩ := decode_bytes s pos hp
    have hw := width_pos s pos hp
    rw [nameFrom, if_pos hp] at h
    by_cases hc : (((pos : Int) == 0 && !beginB (Utf8.decode s pos).1) || !goesB (Utf8.decode s pos).1) = true
    · rw [if_pos hc] at h; cases h
    · rw [if_neg hc] at h
      have hg : goesB (Utf8.decode s pos).1 = true := by
        cases hg : goesB (Utf8.decode s pos).1
        · exact absurd (by simp [hg]) hc
        · rfl
      by_cases hi : i < pos + (Utf8.decode s pos).2
      · intro h58
        by_cases he : i = pos
        · subst he
          rw [d1 (by omega)] at hg
          simp only [h58] at hg
          have := colon_no
          rw [show ((58 : Nat) : Int) = 58 from rfl, this] at hg
          cases hg
        · have := d2 (i - pos) (by omega) (by omega)
          rw [show pos + (i - pos) = i by omega] at this
          omega
      · exact nameFrom_colon s f _ (by omega) h i (by omega) h2
theorem name_colon (s : ByteArray) (h : nameB s = true) : 58 ∉ s.data.toList := by
  simp only [nameB, Bool.and_eq_true] at h
  intro hm
  obtain ⟨i, hi, he⟩ := List.getElem_of_mem hm
  have := nameFrom_colon s (s.size + 1) 0 (by omega) h.2 i (Nat.zero_le _) hi
  rw [get_data s i hi, he] at this
  exact this rfl
theorem indexByte_first : ∀ (p r : List UInt8) (c : UInt8), c ∉ p → Lib.indexByte (p ++ c :: r) c = p.length
  | [], r, c, _ => by simp [Lib.indexByte]
  | x :: p, r, c, h => by
    have hx : ¬ (x == c) = true := fun e => h (by rw [beq_iff_eq.1 e]; simp)
    have ih := indexByte_first p r c (fun hm => h (List.mem_cons_of_mem _ hm))
    simp only [List.cons_append, Lib.indexByte, hx, ih]
    simp
theorem cut_first (p r : List UInt8) (c : UInt8) (h : c ∉ p) : Lib.cut (p ++ c :: r) [c] = (p, r, true) := by
  unfold Lib.cut
  rw [Lib.index_one, indexByte_first p r c h, if_pos (by omega)]
  simp
theorem first_of : ∀ (a b : List UInt8), 58 ∈ a → ∃ p r, a ++ 58 :: b = p ++ 58 :: r ∧ 58 ∉ p ∧ 58 ∈ r
  | [], b, h => by cases h
  | x :: a, b, h => by
    by_cases hx : x = 58
    · subst hx
      exact ⟨[], a ++ 58 :: b, rfl, by simp, by simp⟩
    · have hm : 58 ∈ a := by
        rcases List.mem_cons.1 h with e | e
        · exact absurd e.symm hx
        · exact e
      obtain ⟨p, r, e, h1, h2⟩ := first_of a b hm
      exact ⟨x :: p, r, by rw [List.cons_append, e]; rfl, by simp [h1, Ne.symm hx], h2⟩
theorem mk_data (s : ByteArray) : (⟨s.data.toList.toArray⟩ : ByteArray) = s := by cases s; simp
theorem join_split (a b : ByteArray) : splitV (a.data.toList ++ 58 :: b.data.toList) =
    if nameB a && nameB b then .tuple #[.string a, .string b, .bool true] else .tuple #[.string ⟨#[]⟩, .string ⟨#[]⟩, .bool false] := by
  by_cases h : 58 ∈ a.data.toList
  · have na : nameB a = false := by
      cases hn : nameB a
      · rfl
      · exact absurd h (name_colon a hn)
    obtain ⟨p, r, e, h1, h2⟩ := first_of a.data.toList b.data.toList h
    have nr : nameB ⟨r.toArray⟩ = false := by
      cases hn : nameB ⟨r.toArray⟩
      · rfl
      · exact absurd h2 (name_colon ⟨r.toArray⟩ hn)
    have hs : splitB (a.data.toList ++ 58 :: b.data.toList) = false := by
      unfold splitB splitP splitN
      rw [e, cut_first p r 58 h1]
      simp [nr]
    unfold splitV
    rw [hs, na]
    rfl
  · have c := cut_first a.data.toList b.data.toList 58 h
    have hp : splitP (a.data.toList ++ 58 :: b.data.toList) = a.data.toList := by unfold splitP; rw [c]; rfl
    have hn : splitN (a.data.toList ++ 58 :: b.data.toList) = b.data.toList := by unfold splitN; rw [c]; rfl
    have hs : splitB (a.data.toList ++ 58 :: b.data.toList) = (nameB a && nameB b) := by
      unfold splitB
      rw [hp, hn, c, mk_data, mk_data]
      simp
    unfold splitV
    rw [hs, hp, hn, mk_data, mk_data]
theorem join_data (a b : ByteArray) : (a ++ ⟨#[58]⟩ ++ b).data.toList = a.data.toList ++ 58 :: b.data.toList := by
  rw [ByteArray.data_append, ByteArray.data_append]
  simp
theorem join_size (a b : ByteArray) : (a ++ ⟨#[58]⟩ ++ b).size = a.size + 1 + b.size := by
  rw [ByteArray.size_append, ByteArray.size_append]; rfl
end Go.Proofs.YtkklapoceknbcaaGreatDoor
/- Which characters may be, lie in one of some ranges, begin names and go on in them: the reference's IsChar, 'in', Begins and GoesOn. -/
namespace Go.Proofs.YtkklapoceknbcaaGreatDoor
open Go.RowKit
set_option maxHeartbeats 1000000 in
theorem in_any (r : Int) (b : Nat) (zs : List Int) (n : Nat) (w : World) (hn : zs.length = n) (hmax : n ≤ 1000)
    (hcell : ∀ i, i < n → w.cell? ⟨b, i, none⟩ = some (.int .i32 (zs.getD i 0))) :
    Calls Tryz.prog 113 #[.int .i32 r, .slice (some ⟨b, 0, none⟩) n n] w fun e w' => e = .returned (.bool (inL r zs)) ∧ w' = w := by
  have HC := hide hcell
  clear hcell
  go_enter Tryz.func113, Tryz.ntmps113
  go_wp2_with fail
  go_loop [5] (fun i => ∃ k : Nat, k ≤ n + 1 ∧ i = .int .i64 k ∧ inL r zs = inL r (zs.drop k)) (fun i => n + 1 - (intOf i).toNat)
  case atStart => exact ⟨0, by omega, rfl, rfl⟩
  case round =>
    obtain ⟨k, hk, rfl, hr⟩ := hrel
    have HR := hide hr
    clear hr
    by_cases hlt : k + 1 < n
    · have hlt' : (k : Int) + 1 < n := by omega
      have c0 := unhide HC k (by omega)
      have c1 := unhide HC (k + 1) (by omega)
      have HS := hide (inL_drop r zs k (by omega))
      generalize zs.getD k 0 = lo at *
      generalize zs.getD (k + 1) 0 = hi at *
      go_wp2
      · go_ret
        exact ⟨ret_bool (by rw [unhide HR, unhide HS]; simp [*]), rfl⟩
      all_goals
        exact ⟨⟨k + 2, by omega, by go_num, by rw [unhide HR, unhide HS]; simp <;> omega⟩, by simp [intOf]; omega⟩
    · have hge : ¬ ((k : Int) + 1 < n) := by omega
      go_wp2
      go_ret
      exact ⟨ret_bool (by rw [unhide HR, inL_end _ _ _ (by omega)]), rfl⟩
theorem cells_of (zs : List Int) (i : Nat) (h : i < zs.length) : (zs.map (Value.int .i32)).toArray[i]? = some (.int .i32 (zs.getD i 0)) := by
  simp [List.getElem?_eq_getElem h]
set_option maxHeartbeats 1000000 in
theorem refBegins_any (r : Int) (w : World) :
    Calls Tryz.prog 91 #[.int .i32 r] w fun e w' => e = .returned (.bool (inL r beginL)) ∧ Below w.heap.size w w' := by
  go_enter Tryz.func91, Tryz.ntmps91
  go_wp2_with fail
  refine (in_any r w.heap.size beginL 30 _ rfl (by decide) (fun i hi => (World.cell?_alloc_new _ _ _ _).trans (cells_of beginL i hi))).mono ?_
  rintro e w' ⟨rfl, rfl⟩
  go_wp2
  go_ret
  exact ⟨rfl, by go_grown⟩
set_option maxHeartbeats 1000000 in
theorem refGoesOn_any (r : Int) (w : World) :
    Calls Tryz.prog 92 #[.int .i32 r] w fun e w' => e = .returned (.bool (inL r beginL || inL r onL)) ∧ Below w.heap.size w w' := by
  go_enter Tryz.func92, Tryz.ntmps92
  go_wp2_with fail
  refine (refBegins_any r _).mono ?_
  rintro e w' ⟨rfl, hb⟩
  cases h : inL r beginL
  · go_wp2_with fail
    refine (in_any r w'.heap.size onL 12 _ rfl (by decide) (fun i hi => (World.cell?_alloc_new _ _ _ _).trans (cells_of onL i hi))).mono ?_
    rintro e w'' ⟨rfl, rfl⟩
    go_wp2
    go_ret
    exact ⟨ret_bool (by simp [h]), hb.alloc hb.size _⟩
  · go_wp2
    go_ret
    exact ⟨ret_bool (by simp [h]), hb⟩
end Go.Proofs.YtkklapoceknbcaaGreatDoor
/- The reference's Bad, IsText, IsName and Split. -/
namespace Go.Proofs.YtkklapoceknbcaaGreatDoor
open Go.RowKit
def textB (s : ByteArray) : Bool := (fault s).1 == 0
set_option maxHeartbeats 1000000 in
theorem isText_any (s : ByteArray) (w : World) :
    Calls Tryz.prog 33 #[.string s] w fun e w' => e = .returned (.bool (textB s)) ∧ Below w.heap.size w w' := by
  go_enter Tryz.func33, Tryz.ntmps33
  go_wp2_with fail
  refine (firstFault_any s _).mono ?_
  rintro e w1 ⟨rfl, hb1⟩
  go_wp2
  all_goals
    go_ret
    exact ⟨ret_bool (by simp [textB, *]), hb1⟩
/-- The reference's IsName, behind its tests. -/
def nameFromR (s : ByteArray) : Nat → Nat → Bool
  | 0, _ => true
  | f + 1, pos => if pos < s.size then
      (if (((pos : Int) == 0 && !(inL (Utf8.decode s pos).1 beginL)) || !(inL (Utf8.decode s pos).1 beginL || inL (Utf8.decode s pos).1 onL)) then false else nameFromR s f (pos + (Utf8.decode s pos).2))
    else true
end Go.Proofs.YtkklapoceknbcaaGreatDoor
/- What the program takes for names and texts is what the reference takes for them: plain lemmas. -/
namespace Go.Proofs.YtkklapoceknbcaaGreatDoor
open Go.RowKit
theorem textB_eq (s : ByteArray) : textB s = textR s := text_eq s (s.size + 1) 0
theorem validD_at (s : ByteArray) (pos : Nat) (hp : pos < s.size) : Lib.validD (s.data.toList.drop pos) =
    if (Utf8.decode s pos).1 = 65533 ∧ (Utf8.decode s pos).2 = 1 then false else Lib.validD (s.data.toList.drop (pos + (Utf8.decode s pos).2)) := by
  have hne : s.data.toList.drop pos ≠ [] := by
    intro h
    have := congrArg List.length h
    rw [List.length_drop] at this
    have hl : s.data.toList.length = s.size := rfl
    simp only [List.length_nil] at this
    omega
  have e : Lib.decodeL (s.data.toList.drop pos) = Utf8.decode s pos := Lib.decodeL_drop s pos
  rw [Lib.validD_step _ hne, e, List.drop_drop]
theorem valid_name (s : ByteArray) : ∀ f pos, s.size < pos + f → nameFrom s f pos = true → decide ((badFrom s f pos).1 < 0) = Lib.validD (s.data.toList.drop pos)
  | 0, pos, hb, _ => by
    rw [List.drop_eq_nil_of_le (by show s.data.toList.length ≤ pos; have : s.data.toList.length = s.size := rfl; omega)]; rfl
  | f + 1, pos, hb, h => by
    have hd := decode_le s pos
    unfold badFrom
    by_cases hp : pos < s.size
    · have hw := width_pos s pos hp
      rw [if_pos hp, validD_at s pos hp]
      rw [nameFrom, if_pos hp] at h
      by_cases hc : (((pos : Int) == 0 && !beginB (Utf8.decode s pos).1) || !goesB (Utf8.decode s pos).1) = true
      · rw [if_pos hc] at h; cases h
      · rw [if_neg hc] at h
        have hg : goesB (Utf8.decode s pos).1 = true := by
          cases hg : goesB (Utf8.decode s pos).1
          · exact absurd (by simp [hg]) hc
          · rfl
        have hch := char_of_goes _ (by omega) hg
        rw [charB_eq _ (by omega)] at hch
        have ih := valid_name s f _ (by omega) h
        by_cases h1 : (Utf8.decode s pos).1 = 65533 ∧ (Utf8.decode s pos).2 = 1
        · rw [if_pos h1]
          simp [h1.1, h1.2]
        · rw [if_neg h1, ← ih]
          have h1' : (((Utf8.decode s pos).1 : Int) == 65533 && ((Utf8.decode s pos).2 : Int) == 1) = false := by
            rw [Bool.and_eq_false_iff]
            simp only [beq_eq_false_iff_ne, ne_eq]
            omega
          rw [h1', hch]
          simp
    · rw [if_neg hp, List.drop_eq_nil_of_le (by show s.data.toList.length ≤ pos; have : s.data.toList.length = s.size := rfl; omega)]; rfl
/-- The reference's names are the program's. -/
theorem nameB_eq (s : ByteArray) : nameB s = (textR s && !s.data.toList.isEmpty && nameFrom s (s.size + 1) 0) := by
  unfold nameB textR
  cases h : nameFrom s (s.size + 1) 0
  · simp
  · have := valid_name s (s.size + 1) 0 (by omega) h
    rw [List.drop_zero] at this
    rw [this]
    cases s.data.toList.isEmpty <;> simp
end Go.Proofs.YtkklapoceknbcaaGreatDoor
/- What the library's functions tell of a text, in terms of its characters: plain lemmas. -/
namespace Go.Proofs.YtkklapoceknbcaaGreatDoor
open Go.RowKit
theorem runeB_high {c : Nat} (h : okR c) (hc : 128 ≤ c) : ∀ b ∈ runeB c, 128 ≤ b.toNat := by
  unfold okR at h
  by_cases h2 : c < 2048
  · rw [runeB_two hc h2]; intro b hb; simp only [List.mem_cons, List.not_mem_nil, or_false] at hb
    rcases hb with rfl | rfl <;> (rw [u8_nat (by omega)]; omega)
  · by_cases h3 : c < 65536
    · rw [runeB_three (by omega) h3 (by unfold okR; omega)]; intro b hb; simp only [List.mem_cons, List.not_mem_nil, or_false] at hb
      rcases hb with rfl | rfl | rfl <;> (rw [u8_nat (by omega)]; omega)
    · rw [runeB_four (by omega) (by omega)]; intro b hb; simp only [List.mem_cons, List.not_mem_nil, or_false] at hb
      rcases hb with rfl | rfl | rfl | rfl <;> (rw [u8_nat (by omega)]; omega)
theorem mem_tx {q : Nat} (hq : q < 128) : ∀ {l : List Nat}, okL l → (UInt8.ofNat q ∈ tx l ↔ q ∈ l)
  | [], _ => by simp [tx]
  | c :: l, h => by
    have hc := charR_ok (h c (by simp))
    rw [tx_cons, List.mem_append, mem_tx hq (okL_tail h), List.mem_cons]
    by_cases h1 : c < 128
    · rw [runeB_one h1, List.mem_singleton]
      constructor
      · rintro (e | e)
        · have := congrArg UInt8.toNat e
          rw [u8_nat (by omega), u8_nat (by omega)] at this
          exact .inl this
        · exact .inr e
      · rintro (e | e)
        · exact .inl (by rw [e])
        · exact .inr e
    · constructor
      · rintro (e | e)
        · have := runeB_high hc (by omega) _ e
          rw [u8_nat (by omega)] at this
          omega
        · exact .inr e
      · rintro (e | e)
        · omega
        · exact .inr e
theorem indexByte_none : ∀ (l : List UInt8) (c : UInt8), c ∉ l → Lib.indexByte l c = -1
  | [], _, _ => rfl
  | x :: l, c, h => by
    have hx : ¬ (x == c) = true := fun e => h (by rw [beq_iff_eq.1 e]; simp)
    have ih := indexByte_none l c (fun hm => h (List.mem_cons_of_mem _ hm))
    simp only [Lib.indexByte, hx, ih]
    simp
theorem cut_none (l : List UInt8) (c : UInt8) (h : c ∉ l) : Lib.cut l [c] = (l, [], false) := by
  unfold Lib.cut
  rw [Lib.index_one, indexByte_none l c h, if_neg (by decide)]
theorem contains_tx {q : Nat} (hq : q < 128) {l : List Nat} (h : okL l) : decide (0 ≤ Lib.indexByte (tx l) (UInt8.ofNat q)) = l.contains q := by
  by_cases hm : q ∈ l
  · have hb := (mem_tx hq h).2 hm
    have : 0 ≤ Lib.indexByte (tx l) (UInt8.ofNat q) := by
      obtain ⟨a, b, e, hn⟩ := List.eq_append_cons_of_mem hb
      rw [e, indexByte_first _ _ _ hn]; omega
    rw [decide_eq_true this]
    exact (List.contains_iff_mem.2 hm).symm
  · have hb : UInt8.ofNat q ∉ tx l := fun h' => hm ((mem_tx hq h).1 h')
    rw [indexByte_none _ _ hb]
    have : l.contains q = false := by
      cases hx : l.contains q
      · rfl
      · exact absurd (List.contains_iff_mem.1 hx) hm
    rw [this]; rfl
/-- A text that is cut at a sign below 128. -/
theorem cut_tx {q : Nat} (hq : q < 128) {l : List Nat} (h : okL l) : Lib.cut (tx l) [UInt8.ofNat q] =
    if l.contains q then (tx (l.takeWhile (· != q)), tx (l.dropWhile (· != q)).tail, true) else (tx l, [], false) := by
  by_cases hm : q ∈ l
  · rw [if_pos (List.contains_iff_mem.2 hm)]
    have e := List.takeWhile_append_dropWhile (p := (· != q)) (l := l)
    have hno : q ∉ l.takeWhile (· != q) := fun hx => by have := all_takeWhile (· != q) l q hx; simp at this
    obtain ⟨u, hu⟩ : ∃ u, l.dropWhile (· != q) = q :: u := by
      cases hx : l.dropWhile (· != q) with
      | nil => rw [hx, List.append_nil] at e; rw [← e] at hm; exact absurd hm hno
      | cons c u =>
        have := List.head_dropWhile_not (l := l) (· != q) (by rw [hx]; simp)
        simp only [hx, List.head_cons] at this
        have hc : c = q := by simpa using this
        exact ⟨u, by rw [hc]⟩
    rw [hu, List.tail_cons]
    have e2 : tx l = tx (l.takeWhile (· != q)) ++ UInt8.ofNat q :: tx u := by
      conv => lhs; rw [← e, hu, tx_append, tx_cons, runeB_one hq]
      rfl
    rw [e2]
    exact cut_first _ _ _ (fun hx => hno ((mem_tx hq (okL_pre h (List.takeWhile_prefix _))).1 hx))
  · rw [if_neg (fun hx => hm (List.contains_iff_mem.1 hx))]
    exact cut_none _ _ (fun hx => hm ((mem_tx hq h).1 hx))
theorem valid_T {l : List Nat} (h : okL l) : Lib.validD (tx l) = true := by
  have key : ∀ (t p : List Nat), l = p ++ t → Lib.validD ((T l).data.toList.drop (tx p).length) = true := by
    intro t
    induction t with
    | nil =>
      intro p e
      rw [drop_nil _ _ (end_at e)]
      rfl
    | cons c t ih =>
      intro p e
      obtain ⟨hd, hlt, hc, hpos⟩ := dec_at e h
      rw [validD_at _ _ hlt, hd, if_neg]
      · have := ih (p ++ [c]) (by rw [e]; simp)
        rw [tx_snoc] at this
        exact this
      · rintro ⟨h1, h2⟩
        simp only at h1 h2
        subst h1
        rw [show (runeB 65533).length = 3 from by decide +kernel] at h2
        cases h2
  have := key l [] rfl
  rw [T_data] at this
  simpa [tx] using this
theorem nameFrom_T {l : List Nat} (h : okL l) : ∀ (t p : List Nat) (f : Nat), l = p ++ t → (T l).size < (tx p).length + f →
    nameFrom (T l) f (tx p).length = (if p = [] then (t.isEmpty || (match t with | [] => true | c :: u => begC c && u.all goC)) else t.all goC)
  | [], p, f, e, hf => by
    rw [nameFrom_end _ _ _ (end_at e)]
    split <;> rfl
  | c :: t, p, f, e, hf => by
    obtain ⟨hd, hlt, hc, hpos⟩ := dec_at e h
    obtain ⟨g, rfl, hg⟩ := nameFrom_step (T l) f (tx p).length hlt hf
    have ih := nameFrom_T h t (p ++ [c]) g (by rw [e]; simp) (by rw [tx_snoc]; omega)
    rw [tx_snoc, if_neg (by simp)] at ih
    rw [hg, hd]
    simp only
    rw [ih, begC_eq c hc, goC_eq c hc]
    by_cases hp : p = []
    · rw [if_pos hp, hp]
      cases hb : begC c
      · simp [tx]
      · simp [tx, goC_of_beg hb]
    · rw [if_neg hp]
      have : (((tx p).length : Int) == 0) = false := by
        have := tx_len_zero (okL_left (e ▸ h))
        simp
        intro h0
        exact hp (this (by simpa using h0))
      rw [this, Bool.false_and, Bool.false_or, List.all_cons]
      cases goC c <;> rfl
theorem nameB_T {l : List Nat} (h : okL l) : nameB (T l) = isNm l := by
  unfold nameB isNm
  rw [T_data, valid_T h, Bool.and_true]
  have := nameFrom_T h l [] ((T l).size + 1) rfl (by omega)
  rw [if_pos rfl] at this
  rw [show nameFrom (T l) ((T l).size + 1) 0 = _ from this]
  cases l with
  | nil => rfl
  | cons c t =>
    have e0 : (tx (c :: t)).isEmpty = false := by
      cases hx : tx (c :: t) with
      | nil => have := tx_len_zero h (by rw [hx]; rfl); cases this
      | cons _ _ => rfl
    rw [e0]
    simp only [List.isEmpty_cons, Bool.not_false, Bool.true_and, Bool.false_or]
    rw [nameA]
    cases hb : begC c
    · rfl
    · rw [if_pos rfl, Bool.true_and]
      rw [Bool.eq_iff_iff]
      simp only [List.all_eq_true, beq_iff_eq, List.cons.injEq, true_and]
      constructor
      · intro ha
        have := takeWhile_run goC t [] ha (fun _ hx => by cases hx)
        simpa using this
      · intro ha x hx
        exact all_takeWhile goC t x (by rw [ha]; exact hx)
theorem splitB_T {l : List Nat} (h : okL l) : splitB (T l).data.toList = isQ l := by
  have hc := cut_tx (q := 58) (by decide) h
  rw [show UInt8.ofNat 58 = 58 from rfl] at hc
  unfold splitB splitP splitN isQ
  rw [T_data, hc]
  cases hm : l.contains 58
  · simp only [Bool.false_eq_true, if_false, Bool.not_false, Bool.true_or, Bool.true_and]
    exact nameB_T h
  · simp only [if_true, Bool.not_true, Bool.false_or]
    have h1 : okL (l.takeWhile (· != 58)) := okL_pre h (List.takeWhile_prefix _)
    have h2 : okL (l.dropWhile (· != 58)).tail := fun c hx => h c ((List.dropWhile_sublist _).subset (List.mem_of_mem_tail hx))
    rw [show (⟨(tx (l.takeWhile (· != 58))).toArray⟩ : ByteArray) = T (l.takeWhile (· != 58)) from rfl, show (⟨(tx (l.dropWhile (· != 58)).tail).toArray⟩ : ByteArray) = T (l.dropWhile (· != 58)).tail from rfl, nameB_T h1, nameB_T h2]
def blankN (x : Nat) : Bool := blankB x
theorem idx_T {l : List Nat} (h : okL l) : ∀ (t p : List Nat) (f : Nat), l = p ++ t → (T l).size ≤ (tx p).length + f →
    Lib.idxFuncFrom blankN false (T l) f (tx p).length = if t.dropWhile blankC = [] then -1 else ((tx (p ++ t.takeWhile blankC)).length : Int)
  | [], p, f, e, hf => by rw [Lib.idxFuncFrom_end _ _ _ _ _ (end_at e)]; rfl
  | c :: t, p, f, e, hf => by
    obtain ⟨hd, hlt, hc, hpos⟩ := dec_at e h
    cases f with
    | zero => omega
    | succ f =>
      have ih := idx_T h t (p ++ [c]) f (by rw [e]; simp) (by rw [tx_snoc]; omega)
      rw [tx_snoc] at ih
      rw [Lib.idxFuncFrom, if_pos hlt, hd]
      simp only
      rw [ih]
      have hb : blankN c = blankC c := blankC_eq c
      rw [hb]
      cases hbc : blankC c
      · rw [if_pos rfl, List.dropWhile_cons_of_neg (by rw [hbc]; decide), if_neg (by simp), List.takeWhile_cons_of_neg (by rw [hbc]; decide), List.append_nil]
      · rw [if_neg (by decide), List.dropWhile_cons_of_pos hbc, List.takeWhile_cons_of_pos hbc, List.append_assoc]
        rfl
theorem trim_T {l : List Nat} (h : okL l) : Lib.trimLeftF blankN (T l) = T (l.dropWhile blankC) := by
  have := idx_T h l [] (T l).size rfl (by omega)
  unfold Lib.trimLeftF Lib.idxFunc
  rw [show Lib.idxFuncFrom blankN false (T l) (T l).size 0 = _ from this]
  by_cases hd : l.dropWhile blankC = []
  · rw [if_pos hd, if_pos rfl, hd]; rfl
  · rw [if_neg hd, if_neg (by omega)]
    rw [List.nil_append, Int.toNat_natCast]
    exact suf_at (List.takeWhile_append_dropWhile).symm
theorem isBlank_runes (w : World) : PredAtRunes Tryz.prog 70 #[] blankN w := fun W x _ _ => by
  refine (isBlank_any x W).mono ?_
  rintro e w' ⟨rfl, rfl⟩
  exact ⟨rfl, 0, rfl⟩
theorem isBlank_enters : ∀ args w, (callFunc 70 args).run Tryz.prog w = .ok (.enter 70 args) w := fun _ _ => by kernel_rfl
/-- Equal texts are of equal characters. -/
theorem tx_inj : ∀ {a b : List Nat}, okL a → okL b → tx a = tx b → a = b
  | [], b, _, hb, e => (tx_len_zero hb (by rw [← e]; rfl)).symm
  | x :: a, [], ha, _, e => by have := tx_len_zero ha (by rw [e]; rfl); exact this
  | x :: a, y :: b, ha, hb, e => by
    have h1 := dec_rune x (charR_ok (ha x (by simp))) (tx a)
    have h2 := dec_rune y (charR_ok (hb y (by simp))) (tx b)
    rw [tx_cons, tx_cons] at e
    rw [e, h2] at h1
    have hxy : y = x := congrArg Prod.fst h1
    subst hxy
    rw [tx_inj (okL_tail ha) (okL_tail hb) (List.append_cancel_left e)]
theorem eq_T {a b : List Nat} (ha : okL a) (hb : okL b) : ((T a).toList == tx b) = (a == b) := by
  rw [T_toList, Bool.eq_iff_iff, beq_iff_eq, beq_iff_eq]
  exact ⟨tx_inj ha hb, fun e => by rw [e]⟩
end Go.Proofs.YtkklapoceknbcaaGreatDoor
/- The name, the string, the variable, the word that a text begins with, and which word is what: xplex's functions. -/
namespace Go.Proofs.YtkklapoceknbcaaGreatDoor
open Go.RowKit
theorem okL_tl {l : List Nat} (h : okL l) : okL l.tail := fun c hc => h c (List.mem_of_mem_tail hc)
end Go.Proofs.YtkklapoceknbcaaGreatDoor
/- The reference's IsName and Split give what the program's give. -/
namespace Go.Proofs.YtkklapoceknbcaaGreatDoor
open Go.RowKit
theorem refBegins_at (r : Nat) (hr : r ≤ 2147483647) (w : World) :
    Calls Tryz.prog 91 #[.int .i32 r] w fun e w' => e = .returned (.bool (beginB r)) ∧ Below w.heap.size w w' := by
  rw [beginB_eq r (by omega)]; exact refBegins_any r w
theorem refGoesOn_at (r : Nat) (hr : r ≤ 2147483647) (w : World) :
    Calls Tryz.prog 92 #[.int .i32 r] w fun e w' => e = .returned (.bool (goesB r)) ∧ Below w.heap.size w w' := by
  rw [goesB_eq r (by omega)]; exact refGoesOn_any r w
set_option maxHeartbeats 1000000 in
theorem refIsName_any (s : ByteArray) (w : World) (hs : s.size ≤ 4294967280) (hE : Env w) :
    Calls Tryz.prog 59 #[.string s] w fun e w' => e = .returned (.bool (nameB s)) ∧ Below w.heap.size w w' := by
  have HE := hide hE
  clear hE
  have HN := hide (nameB_eq s)
  cases ht : textR s
  · have HT := hide ht
    clear ht
    go_enter Tryz.func59, Tryz.ntmps59
    go_wp2_with fail
    refine (refIsText_any s _ hs (unhide HE)).mono ?_
    rintro e w' ⟨rfl, hb⟩
    rw [unhide HT]
    go_wp2
    go_ret
    exact ⟨ret_bool (by rw [unhide HN, unhide HT]; rfl), hb⟩
  · have HT := hide ht
    clear ht
    by_cases h0 : s.toList = []
    · go_enter Tryz.func59, Tryz.ntmps59
      go_wp2_with fail
      refine (refIsText_any s _ hs (unhide HE)).mono ?_
      rintro e w' ⟨rfl, hb⟩
      rw [unhide HT]
      go_wp2
      go_ret
      have e0 : s.data.toList.isEmpty = true := by rw [← toList_data, h0]; rfl
      exact ⟨ret_bool (by rw [unhide HN, unhide HT, e0]; rfl), hb⟩
    · have h0' : s.toList.isEmpty = false := by cases h : s.toList with | nil => exact absurd h h0 | cons _ _ => rfl
      go_enter Tryz.func59, Tryz.ntmps59
      go_wp2_with fail
      refine (refIsText_any s _ hs (unhide HE)).mono ?_
      rintro e w' ⟨rfl, hb⟩
      rw [unhide HT]
      go_wp2_with fail
      go_loopw [3] (fun i wr => ∃ (pos f : Nat), i = .int .i64 pos ∧ pos ≤ s.size ∧ Below w'.heap.size w' wr ∧ nameFrom s (s.size + 1) 0 = nameFrom s f pos ∧ s.size < pos + f) (fun i wr => s.size - (intOf i).toNat)
      case atStart => exact ⟨0, s.size + 1, rfl, Nat.zero_le _, Below.refl _ _, rfl, by omega⟩
      case round =>
        obtain ⟨pos, f, rfl, hps, hbr, hf, hfu⟩ := hrel
        by_cases hp : pos < s.size
        · have hwd := width_pos s pos hp
          have hdl := decode_le s pos
          obtain ⟨_, _, hwe⟩ := decode_bytes s pos hp
          obtain ⟨g, rfl, hg⟩ := nameFrom_step s f pos hp hfu
          have HF := hide (hf.trans hg)
          clear hf hg
          go_wp2_with fail
          refine (decodeRune_at s pos _ hp (((unhide HE).below hb).below hbr)).mono ?_
          rintro e w1 ⟨rfl, hb1⟩
          generalize hd : Utf8.decode s pos = d at *
          clear hd
          by_cases hz : pos = 0
          · subst hz
            go_wp2_with (first | (go_at_call 91; refine (refBegins_at _ hdl _).mono ?_; rintro e w2 ⟨rfl, hb2⟩) | (go_at_call 92; refine (refGoesOn_at _ hdl _).mono ?_; rintro e w3 ⟨rfl, hb3⟩))
            all_goals first
              | (go_ret
                 refine ⟨ret_bool ?_, Below.then hb (Below.then hbr (Below.then hb1 (by first | exact Below.then hb2 hb3 | exact hb2 | exact hb3)))⟩
                 have key : nameFrom s (s.size + 1) 0 = false := by rw [unhide HF]; simp [*]
                 simp [nameB, key])
              | (exact ⟨⟨0 + d.2, g, by go_num, hwe, Below.then hbr (Below.then hb1 (by first | exact Below.then hb2 hb3 | exact hb2 | exact hb3)), by rw [unhide HF]; simp_all, by omega⟩, by simp [intOf]; omega⟩)
          · have hz' : ((pos : Int) == 0) = false := by simpa using hz
            go_wp2_with (first | (go_at_call 91; refine (refBegins_at _ hdl _).mono ?_; rintro e w2 ⟨rfl, hb2⟩) | (go_at_call 92; refine (refGoesOn_at _ hdl _).mono ?_; rintro e w3 ⟨rfl, hb3⟩))
            all_goals first
              | (go_ret
                 refine ⟨ret_bool ?_, Below.then hb (Below.then hbr (Below.then hb1 (by first | exact Below.then hb2 hb3 | exact hb2 | exact hb3)))⟩
                 have key : nameFrom s (s.size + 1) 0 = false := by rw [unhide HF]; simp [*]
                 simp [nameB, key])
              | (exact ⟨⟨pos + d.2, g, by go_num, hwe, Below.then hbr (Below.then hb1 (by first | exact Below.then hb2 hb3 | exact hb2 | exact hb3)), by rw [unhide HF]; simp_all, by omega⟩, by simp [intOf]; omega⟩)
        · have HF := hide (hf.trans (nameFrom_end s f pos hp))
          clear hf
          go_wp2
          go_ret
          refine ⟨ret_bool ?_, Below.then hb hbr⟩
          have e0 : s.data.toList.isEmpty = false := by rw [← toList_data]; exact h0'
          rw [unhide HN, unhide HT, unhide HF, e0]; rfl
theorem splitV_at (s : ByteArray) (k : Nat) (hk : k < s.size) (hc : (s.get! k).toNat = 58) (hno : ∀ j, j < k → (s.get! j).toNat ≠ 58) :
    splitP s.data.toList = s.data.toList.take k ∧ splitN s.data.toList = s.data.toList.drop (k + 1) ∧ splitB s.data.toList = (nameB ⟨(s.data.toList.take k).toArray⟩ && nameB ⟨(s.data.toList.drop (k + 1)).toArray⟩) := by
  have hl : s.data.toList.length = s.size := rfl
  have h58 : s.data.toList[k]'hk = 58 := by
    rw [get_data s k hk] at hc
    exact UInt8.toNat_inj.1 (show _ = (58 : UInt8).toNat from hc)
  have hn : 58 ∉ s.data.toList.take k := by
    intro hm
    obtain ⟨j, hj, he⟩ := List.getElem_of_mem hm
    rw [List.length_take] at hj
    have := hno j (by omega)
    rw [get_data s j (by omega)] at this
    rw [List.getElem_take] at he
    rw [he] at this
    exact this rfl
  have e : s.data.toList = s.data.toList.take k ++ 58 :: s.data.toList.drop (k + 1) := by
    conv => lhs; rw [← List.take_append_drop k s.data.toList]
    rw [List.drop_eq_getElem_cons (by omega), h58]
  have c := cut_first (s.data.toList.take k) (s.data.toList.drop (k + 1)) 58 hn
  rw [← e] at c
  unfold splitB splitP splitN
  rw [c]
  simp
theorem splitV_none (s : ByteArray) (hno : ∀ j, j < s.size → (s.get! j).toNat ≠ 58) : splitP s.data.toList = [] ∧ splitN s.data.toList = s.data.toList ∧ splitB s.data.toList = nameB s := by
  have hl : s.data.toList.length = s.size := rfl
  have hn : 58 ∉ s.data.toList := by
    intro hm
    obtain ⟨j, hj, he⟩ := List.getElem_of_mem hm
    have := hno j hj
    rw [get_data s j hj, he] at this
    exact this rfl
  have hi : ∀ l : List UInt8, 58 ∉ l → Lib.indexByte l 58 = -1 := by
    intro l
    induction l with
    | nil => intro _; rfl
    | cons x l ih =>
      intro h
      have hx : ¬ (x == 58) = true := fun e => h (by rw [beq_iff_eq.1 e]; simp)
      have := ih (fun hm => h (List.mem_cons_of_mem _ hm))
      simp only [Lib.indexByte, hx, this]
      simp
  have c : Lib.cut s.data.toList [58] = (s.data.toList, [], false) := by
    unfold Lib.cut
    rw [Lib.index_one, hi _ hn, if_neg (by decide)]
  unfold splitB splitP splitN
  rw [c]
  simp
theorem take_extract (s : ByteArray) (k : Nat) : (⟨(s.data.toList.take k).toArray⟩ : ByteArray) = s.extract 0 k := by
  apply ByteArray.ext
  rw [ByteArray.data_extract]
  apply Array.ext'
  simp
theorem drop_extract (s : ByteArray) (k : Nat) : (⟨(s.data.toList.drop k).toArray⟩ : ByteArray) = s.extract k s.size := by
  apply ByteArray.ext
  rw [ByteArray.data_extract]
  apply Array.ext'
  simp [List.take_of_length_le]
set_option maxHeartbeats 1000000 in
theorem refSplit_any (s : ByteArray) (w : World) (hs : s.size ≤ 4294967280) (hE : Env w) :
    Calls Tryz.prog 90 #[.string s] w fun e w' => e = .returned (splitV s.data.toList) ∧ Below w.heap.size w w' := by
  have HE := hide hE
  clear hE
  go_enter Tryz.func90, Tryz.ntmps90
  go_wp2_with fail
  go_loop [5] (fun i => ∃ k : Nat, k ≤ s.size ∧ i = .int .i64 k ∧ ∀ j, j < k → (s.get! j).toNat ≠ 58) (fun i => s.size - (intOf i).toNat)
  case atStart => exact ⟨0, Nat.zero_le _, rfl, fun j hj => by omega⟩
  case round =>
    obtain ⟨k, hk, rfl, hno⟩ := hrel
    by_cases hlt : k < s.size
    · have hg : s.get! k = s[k] := by rw [get_data s k hlt]; rfl
      by_cases hc : (s.get! k).toNat = 58
      · obtain ⟨hsp, hsn, hsb⟩ := splitV_at s k hlt hc hno
        have HP := hide hsp
        have HN := hide hsn
        have HB := hide hsb
        clear hsp hsn hsb hno
        have hc' : ((s[k].toNat : Int) == 58) = true := by rw [← hg, hc]; rfl
        have hlt' : (k : Int) < s.size := by omega
        clear hg hc
        have z1 : (s.extract 0 k).size ≤ 4294967280 := by rw [ByteArray.size_extract]; omega
        have z2 : (s.extract (k + 1) s.size).size ≤ 4294967280 := by rw [ByteArray.size_extract]; omega
        go_wp2_with fail
        refine (refIsName_any (s.extract 0 k) _ z1 (unhide HE)).mono ?_
        rintro e w1 ⟨rfl, hb1⟩
        cases hn : nameB (s.extract 0 k)
        · have HN1 := hide hn
          clear hn
          go_wp2
          go_ret3
          exact ⟨splitV_no (by rw [unhide HB, take_extract, unhide HN1]; rfl), hb1⟩
        · have HN1 := hide hn
          clear hn
          go_wp2_with fail
          refine (refIsName_any (s.extract (k + 1) s.size) _ z2 ((unhide HE).below hb1)).mono ?_
          rintro e w2 ⟨rfl, hb2⟩
          cases hn : nameB (s.extract (k + 1) s.size)
          · have HN2 := hide hn
            clear hn
            go_wp2
            go_ret3
            exact ⟨splitV_no (by rw [unhide HB, take_extract, drop_extract, unhide HN1, unhide HN2]; rfl), Below.then hb1 hb2⟩
          · have HN2 := hide hn
            clear hn
            go_wp2
            go_region
            go_wp2
            go_ret3
            refine ⟨?_, by first | exact (Below.then hb1 hb2).drew | exact Below.then (Below.then hb1 hb2) (below_drewN _ _)⟩
            rw [← splitV_of (unhide HP) (unhide HN) (by rw [unhide HB, take_extract, drop_extract, unhide HN1, unhide HN2]; rfl), take_extract, drop_extract]
            rfl
      · have hc' : ((s[k].toNat : Int) == 58) = false := by rw [← hg]; simp; omega
        have HNO := hide hno
        clear hno
        go_wp2
        go_round
        case rel =>
          refine ⟨k + 1, by omega, by go_num, fun j hj => ?_⟩
          rcases Nat.lt_or_ge j k with h | h
          · exact unhide HNO j h
          · rw [show j = k by omega]; exact hc
        case measure => simp [intOf]; omega
    · have hno' := splitV_none s (fun j hj => hno j (by omega))
      obtain ⟨hsp, hsn, hsb⟩ := hno'
      have HP := hide hsp
      have HN := hide hsn
      have HB := hide hsb
      clear hsp hsn hsb hno
      go_wp2_with fail
      refine (refIsName_any s _ hs (unhide HE)).mono ?_
      rintro e w1 ⟨rfl, hb1⟩
      cases hn : nameB s
      · have HN1 := hide hn
        clear hn
        go_wp2
        go_ret3
        exact ⟨splitV_no (by rw [unhide HB]; exact unhide HN1), hb1⟩
      · have HN1 := hide hn
        clear hn
        go_wp2
        go_ret3
        refine ⟨?_, hb1⟩
        rw [← splitV_of (unhide HP) (unhide HN) (by rw [unhide HB]; exact unhide HN1), mk_data]
        rfl
theorem name_split (s : ByteArray) (h : nameB s = true) : splitB s.data.toList = true := by
  have hn := name_colon s h
  have hno : ∀ j, j < s.size → (s.get! j).toNat ≠ 58 := fun j hj hc => by
    rw [get_data s j hj] at hc
    exact hn (by rw [← UInt8.toNat_inj.1 (show _ = (58 : UInt8).toNat from hc)]; exact List.getElem_mem _)
  rw [(splitV_none s hno).2.2]; exact h
theorem splitV_cases (l : List UInt8) : ∃ p n : ByteArray, splitV l = .tuple #[.string p, .string n, .bool (splitB l)] := by
  unfold splitV
  cases h : splitB l
  · exact ⟨_, _, rfl⟩
  · exact ⟨_, _, rfl⟩
theorem refIsText_same (s : ByteArray) (w : World) (hs : s.size ≤ 4294967280) (hE : Env w) :
    Calls Tryz.prog 13 #[.string s] w fun e w' => e = .returned (.bool (textB s)) ∧ Below w.heap.size w w' := by
  rw [textB_eq]; exact refIsText_any s w hs hE
end Go.Proofs.YtkklapoceknbcaaGreatDoor
/- The string, the word that a text begins with, and which word is what: xplex's functions. -/
namespace Go.Proofs.YtkklapoceknbcaaGreatDoor
open Go.RowKit
def strAny (l : List Nat) : Option (List Nat) := match strAt 34 l with | some t => some t | none => strAt 39 l
/-- What stringAhead tells: a text, and whether it is ended. -/
def strV (o : Option (List Nat)) (e : Ending) : Prop := ∃ x b, e = .returned (.tuple #[.string x, .bool b]) ∧ ((∃ t, o = some t ∧ x = T t ∧ b = true) ∨ (o = none ∧ b = false))
theorem strAt_of {q : Nat} {l : List Nat} : strAt q l = if heads q l && l.tail.contains q then some (l.tail.takeWhile (· != q)) else none := rfl
theorem strAt_none {q : Nat} {l : List Nat} (h : heads q l = false) : strAt q l = none := by rw [strAt_of, h, Bool.false_and, if_neg (by decide)]
theorem heads_one {q r : Nat} {l : List Nat} (h : heads q l = true) (hq : r ≠ q) : heads r l = false := by
  rw [heads_true h, heads_cons]; simpa using hq.symm
def cutB (q : Nat) (l : List Nat) : Bool := l.contains q
def cutW (q : Nat) (l : List Nat) : List Nat := if l.contains q then l.takeWhile (· != q) else l
theorem cut_sign (q : Nat) (u : UInt8) (hu : u = UInt8.ofNat q) (hq : q < 128) (l : List Nat) (hl : okL l) (hs : (T l).size ≤ 512) (w : World) (hE : Env w) :
    Calls Tryz.prog 108 #[.string (T l), .string ⟨#[u]⟩] w fun e w' => (∃ y, e = .returned (.tuple #[.string (T (cutW q l)), .string y, .bool (cutB q l)])) ∧ Below w.heap.size w w' := by
  subst hu
  obtain ⟨m, hm⟩ := hE.len
  refine (Tryz.strings_Cut (T l) ⟨#[UInt8.ofNat q]⟩ m w (by omega) hm).mono ?_
  rintro e w' ⟨rfl, nd, rfl⟩
  refine ⟨?_, below_drewN w nd⟩
  rw [T_data, show (⟨#[UInt8.ofNat q]⟩ : ByteArray).data.toList = [UInt8.ofNat q] from rfl, cut_tx hq hl]
  unfold cutW cutB
  cases l.contains q
  · exact ⟨_, rfl⟩
  · exact ⟨_, rfl⟩
theorem hasPrefix_T (a : List Nat) (u : ByteArray) (hu : u.data.toList = a.map UInt8.ofNat) (ha : ∀ c ∈ a, c < 128) (l : List Nat) (hl : okL l) (w : World) :
    Calls Tryz.prog 71 #[.string (T l), .string u] w fun e w' => e = .returned (.bool (a.isPrefixOf l)) ∧ w' = w := by
  refine (Tryz.strings_HasPrefix (T l) u w).mono ?_
  rintro e w' ⟨rfl, rfl⟩
  refine ⟨ret_bool ?_, rfl⟩
  rw [T_data, hu, pre_tx a l ha hl]
theorem isName_T (l : List Nat) (hl : okL l) (hs : (T l).size ≤ 4096) (w : World) (hE : Env w) :
    Calls Tryz.prog 87 #[.string (T l)] w fun e w' => e = .returned (.bool (isNm l)) ∧ Below w.heap.size w w' := by
  rw [← nameB_T hl]
  exact isName_any (T l) w (by unfold maxLen; omega) hE
end Go.Proofs.YtkklapoceknbcaaGreatDoor
/- strings.Builder where the dump's copyCheck has lost its panic: copyCheck and WriteString. -/
namespace Go.Proofs.YtkklapoceknbcaaGreatDoor
open Go.RowKit Go.Shelf
set_option maxRecDepth 100000 in
theorem bld_used (b : Nat) (w : World) (h0 : w.cell? ⟨b, 0, none⟩ = some (.pointer (some ⟨b, 0, none⟩))) :
    Calls Tryz.prog 52 #[.pointer (some ⟨b, 0, none⟩)] w fun e w' => e = .returned (.tuple #[]) ∧ w' = w := by
  obtain ⟨j, hj, _⟩ := Option.map_eq_some_iff.1 (show (Tryz.prog.info? 45).map (·.size) = some 2 by kernel_rfl)
  go_enter Tryz.func52, Tryz.ntmps52
  go_wp2
  rw [Lib.run_neq_ptr_same w _ Tryz.underlying42 hj]
  go_wp2
  go_end0
  exact ⟨rfl, rfl⟩
set_option maxRecDepth 100000 in
theorem bld_fresh (b : Nat) (w : World) (h0 : w.cell? ⟨b, 0, none⟩ = some (.pointer none)) (hsh : w.shape? b = some (45, 2)) (hfz : w.frozen? ⟨b, 0, none⟩ = false) :
    Calls Tryz.prog 52 #[.pointer (some ⟨b, 0, none⟩)] w fun e w' => e = .returned (.tuple #[]) ∧ w' = w.setCell ⟨b, 0, none⟩ (.pointer (some ⟨b, 0, none⟩)) := by
  obtain ⟨j, hj, hjs⟩ := Option.map_eq_some_iff.1 (show (Tryz.prog.info? 45).map (·.size) = some 2 by kernel_rfl)
  go_enter Tryz.func52, Tryz.ntmps52
  go_wp2
  rw [Lib.run_to_unsafe w ⟨b, 0, none⟩ Tryz.underlying42 Tryz.underlying90 hj (by rw [hjs]; decide) hsh (Nat.zero_lt_succ 1)]
  simp only [Result.andThen]
  rw [Oper.upon_value]
  go_wp2
  rw [run_callFunc_extern Tryz.func89 (by kernel_rfl) (by kernel_rfl) (by kernel_rfl) (e := Extern.AbiNoEscape.same) (by kernel_rfl)]
  rw [Lib.run_noEscape]
  simp only [Result.andThen]
  rw [Oper.upon_value]
  go_wp2
  rw [Lib.run_from_unsafe w ⟨b, 0, none⟩ Tryz.underlying90 Tryz.underlying42 hj hsh (by kernel_rfl)]
  simp only [Result.andThen]
  rw [Oper.upon_value]
  go_wp2
  go_end0
  exact ⟨rfl, rfl⟩
/-- A builder, whether it was written or not. -/
abbrev IsB (B b : Nat) (bs : List Value) (w : World) : Prop := Lib.IsBuilderF 45 5 B b bs w
abbrev KeptB (b : Nat) (w w' : World) : Prop := Lib.OthersKept 5 (some b) w w'
theorem copyCheck_any (B b : Nat) (bs : List Value) (w : World) (h : IsB B b bs w) :
    Calls Tryz.prog 52 #[.pointer (some ⟨b, 0, none⟩)] w fun e w' => e = .returned (.tuple #[]) ∧ Lib.BuilderAtF 45 5 B b (.pointer (some ⟨b, 0, none⟩)) bs w' ∧ Below B w w' ∧ KeptB b w w' := by
  rcases h with h | h
  · refine (bld_fresh b w h.cell0 h.shape h.frozen0).mono ?_
    rintro e w' ⟨rfl, rfl⟩
    exact ⟨rfl, h.used _, (Below.refl B w).setCell (p := ⟨b, 0, none⟩) h.1 _, (Lib.OthersKept.refl _ _ w).setCell ⟨b, 0, none⟩ rfl _⟩
  · refine (bld_used b w h.cell0).mono ?_
    rintro e w' ⟨rfl, rfl⟩
    exact ⟨rfl, h, Below.refl B _, Lib.OthersKept.refl _ _ _⟩
set_option maxHeartbeats 2000000 in
set_option maxRecDepth 100000 in
theorem writeString_any (B b : Nat) (bs : List Value) (s : ByteArray) (w : World) (h : IsB B b bs w) (hlen : bs.length + s.size ≤ 140737488355328) (hBw : B ≤ w.heap.size) :
    Calls Tryz.prog 28 #[.pointer (some ⟨b, 0, none⟩), .string s] w fun e w' => e = .returned (.tuple #[.int .i64 s.size, .nilIface]) ∧ IsB B b (bs ++ Lib.strCells s) w' ∧ Below B w w' ∧ KeptB b w w' := by
  obtain ⟨i0, hi, hz0, hz1, hz2⟩ := info_parts Tryz.Builder_Extra_169.infoByte
  have HC := hide (copyCheck_any B b bs w h)
  clear h
  go_enter Tryz.func28, Tryz.ntmps28
  go_wp2_with fail
  refine (unhide HC).mono ?_
  rintro e w1 ⟨rfl, h1, hb1, hk1⟩
  obtain ⟨hB, v, hbk, hown, hne⟩ := h1
  have c0 : w1.cell? ⟨b, 0, none⟩ = some (.pointer (some ⟨b, 0, none⟩)) := by rw [Lib.cell_of_heap hbk]; rfl
  have c1 : w1.cell? ⟨b, 1, none⟩ = some v := by rw [Lib.cell_of_heap hbk]; rfl
  go_wp2_with (at_builtin; refine Lib.wpList_append_own_stringF _ rfl _ _ 43 9 rfl B 5 i0 Tryz.underlying43 Tryz.underlying9 hi hz0 hz1 hz2 _ _ _ rfl hown s rfl ?c3 ?c4 ?c5 ?_)
  case c3 => unfold maxLen; omega
  case c4 => omega
  case c5 => have := hb1.size; omega
  intro v' w2 hown' hgrow _
  have hlt : b < w1.heap.size := (Array.getElem?_eq_some_iff.1 hbk).1
  have hb2 : w2.heap[b]? = some (.cells #[.pointer (some ⟨b, 0, none⟩), v] 45 (0, 0)) := by
    rw [hgrow.block b hlt (fun e => hne e.symm)]
    exact hbk
  have d0 : w2.cell? ⟨b, 0, none⟩ = some (.pointer (some ⟨b, 0, none⟩)) := by rw [Lib.cell_of_heap hb2]; rfl
  have d1 : w2.cell? ⟨b, 1, none⟩ = some v := by rw [Lib.cell_of_heap hb2]; rfl
  have f1 : w2.frozen? ⟨b, 1, none⟩ = false := Lib.frozen_of_heap hb2 1
  obtain ⟨ao, n', cap, rfl⟩ : ∃ ao n' cap, v' = .slice ao n' cap := by
    rcases hown'.2 with ⟨hv, _⟩ | ⟨g, cap, cur, fz, hv, _⟩
    · exact ⟨_, _, _, hv⟩
    · exact ⟨_, _, _, hv⟩
  go_wp2
  go_ret2
  refine ⟨rfl, .inr ?_, ?_, (hk1.grown hgrow (Lib.ownsRowF_kind hown)).setCell ⟨b, 1, none⟩ rfl _⟩
  · exact Lib.BuilderAtF.put (T := 45) (e := 5) hB hb2 (bs' := bs ++ Lib.strCells s) (by simpa [Lib.strCells_length] using hown') Tryz.Builder_Extra_169.neB5
  · exact (hb1.grown hgrow (by have := hb1.size; omega) (fun k hk => (hown.lt k hk).1)).setCell (p := ⟨b, 1, none⟩) hB _
end Go.Proofs.YtkklapoceknbcaaGreatDoor
/- Signs below 128 at both ends of a text: what is within is a text. -/
namespace Go.Proofs.YtkklapoceknbcaaGreatDoor
theorem txt_tail {q : Nat} (hq : q < 128) {x : List UInt8} (h : Txt (UInt8.ofNat q :: x)) : Txt x := by
  obtain ⟨rs, h1, h2⟩ := h
  cases rs with
  | nil => cases h2
  | cons r rs =>
    have hd1 := dec_rune r (charR_ok (h1 r (by simp))) (rs.flatMap runeB)
    have hd2 := dec_rune q (.inl (by omega)) x
    have e1 : (r :: rs).flatMap runeB = runeB r ++ rs.flatMap runeB := rfl
    rw [e1] at h2
    rw [runeB_one hq, List.singleton_append] at hd2
    rw [h2, hd1] at hd2
    have hr : r = q := congrArg Prod.fst hd2
    subst hr
    rw [runeB_one hq, List.singleton_append] at h2
    exact ⟨rs, fun y hy => h1 y (by simp [hy]), (List.cons.inj h2).2⟩
theorem txt_init {q : Nat} (hq : q < 128) {x : List UInt8} (h : Txt (x ++ [UInt8.ofNat q])) : Txt x := by
  obtain ⟨rs, h1, h3⟩ := h
  rcases List.eq_nil_or_concat rs with rfl | ⟨us, x', rfl⟩
  · have := congrArg List.length h3; simp at this
  · rw [List.concat_eq_append, List.flatMap_append] at h3
    have hx := h1 x' (by simp)
    have e2 : [x'].flatMap runeB = runeB x' := by simp
    rw [e2] at h3
    by_cases hx1 : x' < 128
    · rw [runeB_one hx1] at h3
      have h4 := (List.append_inj' h3 rfl).1
      exact ⟨us, fun y hy => h1 y (by simp [hy]), h4⟩
    · exfalso
      have hh := runeB_high (charR_ok hx) (by omega)
      have hne : runeB x' ≠ [] := by
        have := runeB_pos hx
        intro e; rw [e] at this; simp at this
      have h5 := congrArg (fun l => l.getLast?) h3
      simp only [List.getLast?_append, List.getLast?_singleton, Option.some_or] at h5
      rw [List.getLast?_eq_some_getLast hne, Option.some_or] at h5
      have h6 := hh _ (List.getLast_mem hne)
      rw [← Option.some.inj h5, u8_nat (by omega)] at h6
      omega
theorem txt_behind : ∀ (a : List Nat), (∀ c ∈ a, c < 128) → ∀ {x : List UInt8}, Txt (a.map UInt8.ofNat ++ x) → Txt x
  | [], _, _, h => h
  | c :: a, ha, _, h => txt_behind a (fun y hy => ha y (List.mem_cons_of_mem _ hy)) (txt_tail (ha c (List.mem_cons_self ..)) h)
theorem txt_ahead : ∀ (n : Nat) (a : List Nat), a.length = n → (∀ c ∈ a, c < 128) → ∀ {x : List UInt8}, Txt (x ++ a.map UInt8.ofNat) → Txt x
  | 0, a, hn, _, x, h => by
    rw [List.length_eq_zero_iff.1 hn, List.map_nil, List.append_nil] at h
    exact h
  | n + 1, a, hn, ha, x, h => by
    rcases List.eq_nil_or_concat a with rfl | ⟨us, c, rfl⟩
    · cases hn
    · rw [List.concat_eq_append] at h ha hn
      rw [List.map_append, List.map_singleton, ← List.append_assoc] at h
      exact txt_ahead n us (by simpa using hn) (fun y hy => ha y (by simp [hy])) (txt_init (ha c (by simp)) h)
theorem txt_mid {a b : List Nat} (ha : ∀ c ∈ a, c < 128) (hb : ∀ c ∈ b, c < 128) {x : List UInt8} (h : Txt (a.map UInt8.ofNat ++ x ++ b.map UInt8.ofNat)) : Txt x :=
  txt_behind a ha (txt_ahead b.length b rfl hb h)
end Go.Proofs.YtkklapoceknbcaaGreatDoor
