/- Several texts, laid as one. -/
import Derived.Test.YthkkfldmoflfaaaGreatDoorRows
import Derived.WalkKit
import Derived.WalkSpells
import Derived.Handy
import Derived.WalkLawsBesides
import Derived.Laws.ComplexArith
/- Small lemmas that every walk of this seat uses. -/
namespace Go.Proofs.YthkkfldmoflfaaaGreatDoor
open Go.RowKit
theorem ret_bool {a b : Bool} (h : a = b) : Ending.returned (.bool a) = .returned (.bool b) := by rw [h]
theorem ret_int {k : IntKind} {a b : Int} (h : a = b) : Ending.returned (.int k a) = .returned (.int k b) := by rw [h]
theorem ret_str {a b : ByteArray} (h : a = b) : Ending.returned (.string a) = .returned (.string b) := by rw [h]
theorem hide {p : Prop} (h : p) : Hid p := h
theorem unhide {p : Prop} (h : Hid p) : p := h
end Go.Proofs.YthkkfldmoflfaaaGreatDoor
/- Whole numbers below 2^53 are written, compared, added, subtracted and read back exactly as float64: plain lemmas on the floats, of no program. -/
namespace Go.Proofs.YthkkfldmoflfaaaGreatDoor
namespace FloatInt
open Ieee

/-- A datum that stands for the integer n: '|n| * 2 ^ k * 2 ^ (-k)' with n's sign. -/
def Stands (d : Datum) (n : Int) : Prop := ∃ k : Nat, d = .number (decide (n < 0)) (n.natAbs * 2 ^ k) (-(k : Int))

theorem signed_stands (n : Int) (k up : Nat) : Ieee.signed (decide (n < 0)) (n.natAbs * 2 ^ k) up = n * 2 ^ (k + up) := by
  unfold Ieee.signed
  rw [Nat.shiftLeft_eq, Nat.mul_assoc, ← Nat.pow_add]
  by_cases h : n < 0
  · rw [if_pos (decide_eq_true h)]
    have e : n = -(n.natAbs : Int) := by omega
    push_cast
    rw [← Int.neg_mul, ← e]
  · rw [if_neg (by simp [h])]
    have e : (n.natAbs : Int) = n := by omega
    push_cast
    rw [e]

theorem compare_mul (a b : Int) (c : Int) (hc : 0 < c) : compare (a * c) (b * c) = compare a b := by
  rcases Int.lt_trichotomy a b with h | h | h
  · have h' : a * c < b * c := Int.mul_lt_mul_of_pos_right h hc
    simp [compare, compareOfLessAndEq, h, h']
  · subst h; simp
  · have h' : b * c < a * c := Int.mul_lt_mul_of_pos_right h hc
    simp [compare, compareOfLessAndEq, Int.lt_asymm h, Int.lt_asymm h', Int.ne_of_gt h, Int.ne_of_gt h']

theorem order_stands {d e : Datum} {a b : Int} (ha : Stands d a) (hb : Stands e b) : d.order e = some (compare a b) := by
  obtain ⟨k, rfl⟩ := ha
  obtain ⟨l, rfl⟩ := hb
  simp only [Datum.order, signed_stands]
  have e1 : k + (-(k : Int) - min (-(k : Int)) (-(l : Int))).toNat = max k l := by omega
  have e2 : l + (-(l : Int) - min (-(k : Int)) (-(l : Int))).toNat = max k l := by omega
  rw [e1, e2, compare_mul _ _ _ (Int.pow_pos (by decide))]

theorem cut_zero (s : Bool) (n : Nat) : Toward.even.cut s n 0 = n := by
  simp [Toward.cut, Nat.mod_one]

theorem cut_scaled (way : Toward) (s : Bool) (n d : Nat) (hn : n ≠ 0) : way.cut s (n * 2 ^ d) d = n := by
  have h1 : d ≤ (n * 2 ^ d).log2 + 2 := by
    have : d ≤ (n * 2 ^ d).log2 := by
      rw [Nat.le_log2 (Nat.mul_ne_zero hn (Nat.ne_of_gt (Nat.two_pow_pos _)))]
      exact Nat.le_mul_of_pos_left _ (Nat.pos_of_ne_zero hn)
    omega
  have e : (1 <<< min d ((n * 2 ^ d).log2 + 2)) = 2 ^ d := by rw [Nat.min_eq_left h1, Nat.shiftLeft_eq, Nat.one_mul]
  have p : 0 < 2 ^ d := Nat.two_pow_pos _
  unfold Toward.cut
  simp only [e, Nat.mul_div_cancel _ p, Nat.mul_mod_left]
  cases way <;> simp

theorem read_word (s : Bool) (rung : Nat) (h : rung < double.signWeight) : double.read (double.word s rung) =
    (if rung < double.binade then .number s rung double.leastPlace
     else if rung < double.infRung then .number s (double.binade + rung % double.binade) (double.leastPlace + (rung / double.binade - 1 : Nat))
     else if rung = double.infRung then .infinity s
     else .nan s (rung - double.infRung)) := by
  have hp : 0 < double.signWeight := Nat.two_pow_pos _
  unfold Format.read Format.word
  cases s
  · have e1 : rung / double.signWeight = 0 := Nat.div_eq_of_lt h
    have e2 : rung % double.signWeight = rung := Nat.mod_eq_of_lt h
    simp [e1, e2]
  · have e1 : (double.signWeight + rung) / double.signWeight = 1 := by
      rw [Nat.add_div_left _ hp, Nat.div_eq_of_lt h]
    have e2 : (double.signWeight + rung) % double.signWeight = rung := by
      rw [Nat.add_mod_left, Nat.mod_eq_of_lt h]
    simp [e1, e2]

theorem log2_scaled (m k : Nat) (h0 : m ≠ 0) : (m * 2 ^ k).log2 = m.log2 + k := by
  have n0 : m * 2 ^ k ≠ 0 := Nat.mul_ne_zero h0 (Nat.ne_of_gt (Nat.two_pow_pos _))
  refine (Nat.log2_eq_iff n0).2 ⟨?_, ?_⟩
  · rw [Nat.pow_add]; exact Nat.mul_le_mul_right _ (Nat.log2_self_le h0)
  · rw [Nat.add_right_comm, Nat.pow_add]; exact Nat.mul_lt_mul_of_pos_right Nat.lt_log2_self (Nat.two_pow_pos _)

/-- A number below 2^53 is written exactly, however it is scaled. -/
theorem nearest_scaled (s : Bool) (m k : Nat) (h0 : m ≠ 0) (h : m < 2 ^ 53) :
    double.nearest s (m * 2 ^ k) (-(k : Int)) = double.word s ((m.log2 + 1022) * 2 ^ 52 + m * 2 ^ (52 - m.log2)) := by
  have n0 : m * 2 ^ k ≠ 0 := Nat.mul_ne_zero h0 (Nat.ne_of_gt (Nat.two_pow_pos _))
  have hl : m.log2 ≤ 52 := by have := (Nat.log2_lt h0).2 h; omega
  have hhi : m < 2 ^ (m.log2 + 1) := Nat.lt_log2_self
  unfold Format.nearest
  rw [if_neg n0]
  have e1 : max (-(k : Int) + ((m * 2 ^ k).log2 : Nat) - (double.fractionBits : Nat)) double.leastPlace = (m.log2 : Int) - 52 := by
    have a : ((double.fractionBits : Nat) : Int) = 52 := rfl
    have b : double.leastPlace = -1074 := by decide
    rw [a, b, log2_scaled m k h0]; omega
  have b : double.leastPlace = -1074 := by decide
  have bi : double.binade = 2 ^ 52 := rfl
  have ir : double.infRung = 2047 * 2 ^ 52 := rfl
  simp only [e1]
  rw [b]
  generalize hL : m.log2 = l at *
  have e4 : ((l : Int) - 52 - -1074).toNat = l + 1022 := by omega
  rw [e4]
  have k2 : m * 2 ^ (52 - l) < 2 ^ 53 := by
    calc m * 2 ^ (52 - l) < 2 ^ (l + 1) * 2 ^ (52 - l) := Nat.mul_lt_mul_of_pos_right hhi (Nat.two_pow_pos _)
      _ = 2 ^ 53 := by rw [← Nat.pow_add]; congr 1; omega
  have e5 : Toward.even.cut s ((m * 2 ^ k) <<< (-(k : Int) - ((l : Int) - 52)).toNat) (((l : Int) - 52) - -(k : Int)).toNat = m * 2 ^ (52 - l) := by
    rw [Nat.shiftLeft_eq]
    by_cases hk : k ≤ 52 - l
    · have a1 : (-(k : Int) - ((l : Int) - 52)).toNat = 52 - l - k := by omega
      have a2 : (((l : Int) - 52) - -(k : Int)).toNat = 0 := by omega
      rw [a1, a2, cut_zero, Nat.mul_assoc, ← Nat.pow_add]; congr 2; omega
    · have a1 : (-(k : Int) - ((l : Int) - 52)).toNat = 0 := by omega
      have a2 : (((l : Int) - 52) - -(k : Int)).toNat = k - (52 - l) := by omega
      have a3 : m * 2 ^ k * 2 ^ 0 = m * 2 ^ (52 - l) * 2 ^ (k - (52 - l)) := by
        rw [Nat.pow_zero, Nat.mul_one, Nat.mul_assoc, ← Nat.pow_add]; congr 2; omega
      rw [a1, a2, a3]
      exact cut_scaled _ _ _ _ (Nat.mul_ne_zero h0 (Nat.ne_of_gt (Nat.two_pow_pos _)))
  rw [e5, bi, ir, Nat.min_eq_left (by omega)]

theorem stands_nearest (n : Int) (h : n.natAbs < 2 ^ 53) : Stands (double.read (FloatKind.f64.nearest n)) n := by
  unfold FloatKind.nearest FloatKind.encode Format.write
  show Stands (double.read (double.nearest (decide (n < 0)) n.natAbs 0)) n
  by_cases h0 : n.natAbs = 0
  · have hn : n = 0 := by omega
    subst hn
    unfold Format.nearest
    rw [if_pos h0, read_word _ _ (Nat.two_pow_pos _), if_pos (show 0 < double.binade from Nat.two_pow_pos _)]
    have z : ∀ k : Nat, Datum.number (decide ((0 : Int) < 0)) 0 (-(k : Int)) = .number (decide ((0 : Int) < 0)) (Int.natAbs 0 * 2 ^ k) (-(k : Int)) := fun k => by
      rw [show Int.natAbs 0 = 0 from rfl, Nat.zero_mul]
    have b : double.leastPlace = -((1074 : Nat) : Int) := by decide
    rw [b]
    generalize 1074 = k
    exact ⟨k, z k⟩
  · have e := nearest_scaled (decide (n < 0)) n.natAbs 0 h0 h
    rw [Nat.pow_zero, Nat.mul_one, show -((0 : Nat) : Int) = 0 from rfl] at e
    rw [e]
    have hl : n.natAbs.log2 ≤ 52 := by have := (Nat.log2_lt h0).2 h; omega
    have hlo := Nat.log2_self_le h0
    have hhi : n.natAbs < 2 ^ (n.natAbs.log2 + 1) := Nat.lt_log2_self
    generalize n.natAbs.log2 = l at *
    have b : double.leastPlace = -1074 := by decide
    have bi : double.binade = 2 ^ 52 := rfl
    have ir : double.infRung = 2047 * 2 ^ 52 := rfl
    have sw : double.signWeight = 2 ^ 63 := rfl
    have k1 : 2 ^ 52 ≤ n.natAbs * 2 ^ (52 - l) := by
      calc 2 ^ 52 = 2 ^ l * 2 ^ (52 - l) := by rw [← Nat.pow_add]; congr 1; omega
        _ ≤ n.natAbs * 2 ^ (52 - l) := Nat.mul_le_mul_right _ hlo
    have k2 : n.natAbs * 2 ^ (52 - l) < 2 ^ 53 := by
      calc n.natAbs * 2 ^ (52 - l) < 2 ^ (l + 1) * 2 ^ (52 - l) := Nat.mul_lt_mul_of_pos_right hhi (Nat.two_pow_pos _)
        _ = 2 ^ 53 := by rw [← Nat.pow_add]; congr 1; omega
    refine ⟨52 - l, ?_⟩
    generalize n.natAbs * 2 ^ (52 - l) = K at *
    rw [read_word _ _ (by rw [sw]; omega), bi, ir, if_neg (by omega), if_pos (by omega)]
    congr 1
    · omega
    · rw [b]; omega

theorem order_nearest (a b : Int) (ha : a.natAbs < 2 ^ 53) (hb : b.natAbs < 2 ^ 53) :
    FloatKind.f64.format.order (floatOfInt .f64 a) (floatOfInt .f64 b) = some (compare a b) :=
  order_stands (stands_nearest a ha) (stands_nearest b hb)

theorem le_nearest (a b : Int) (ha : a.natAbs < 2 ^ 53) (hb : b.natAbs < 2 ^ 53) :
    (FloatKind.f64.format.order (floatOfInt .f64 a) (floatOfInt .f64 b) == some .lt || FloatKind.f64.format.order (floatOfInt .f64 a) (floatOfInt .f64 b) == some .eq) = decide (a ≤ b) := by
  rw [order_nearest a b ha hb]
  rcases Int.lt_trichotomy a b with h | h | h
  · simp [compare, compareOfLessAndEq, h, Int.le_of_lt h]
  · subst h; simp
  · simp [compare, compareOfLessAndEq, Int.lt_asymm h, Int.ne_of_gt h, Int.not_le.2 h]

end FloatInt
end Go.Proofs.YthkkfldmoflfaaaGreatDoor
