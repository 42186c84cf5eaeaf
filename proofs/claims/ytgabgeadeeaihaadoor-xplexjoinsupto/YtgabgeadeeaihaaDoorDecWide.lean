/- UTF-16 is read: xchar's unitOf, isPair, joinPair, firstWide and decodeWide. -/
import Derived.Test.YtgabgeadeeaihaaDoorEncWide
namespace Go.Proofs.YtgabgeadeeaihaaDoor
open Go.RowKit
/-- The unit of two bytes. -/
def unitN (s : ByteArray) (pos : Nat) (high : Bool) : Nat :=
  if high then (s.get! (pos + 1)).toNat * 256 + (s.get! pos).toNat else (s.get! pos).toNat * 256 + (s.get! (pos + 1)).toNat
def highV (high : Bool) : Value := .int .i64 (if high then 1 else 0)
theorem get_at2 (s : ByteArray) (i : Nat) (h : i < s.size) : s[i] = s.get! i := by
  show s.data[i] = s.data[i]!
  rw [getElem!_pos s.data i h]
theorem unitN_lt (s : ByteArray) (pos : Nat) (high : Bool) : unitN s pos high < 65536 := by
  have a := (s.get! pos).toNat_lt
  have b := (s.get! (pos + 1)).toNat_lt
  unfold unitN
  split <;> omega
def pairB (x y : Nat) : Bool := (decide (55296 ≤ x) && decide (x ≤ 56319)) && (decide (56320 ≤ y) && decide (y ≤ 57343))
theorem wB_nat (x lo hi fa fb : Nat) (h1 : floatOfInt .f64 (lo : Int) = fa) (h2 : floatOfInt .f64 (hi : Int) = fb) (hl : lo < 2 ^ 53) (hh : hi < 2 ^ 53) (hx : x < 2 ^ 53) :
    wB (x : Int) fa fb = (decide (lo ≤ x) && decide (x ≤ hi)) := by
  rw [wB_eq (x : Int) lo hi fa fb h1 h2 (by omega) (by omega) (by omega)]
  simp
theorem lead_eq (x : Nat) (h : x < 65536) : wB (x : Int) 4677832637954392064 4677973238003793920 = (decide (55296 ≤ x) && decide (x ≤ 56319)) :=
  wB_nat x 55296 56319 _ _ (by decide +kernel) (by decide +kernel) (by decide) (by decide) (by omega)
theorem trail_eq (x : Nat) (h : x < 65536) : wB (x : Int) 4677973375442747392 4678113975492149248 = (decide (56320 ≤ x) && decide (x ≤ 57343)) :=
  wB_nat x 56320 57343 _ _ (by decide +kernel) (by decide +kernel) (by decide) (by decide) (by omega)
theorem surr_eq (x : Nat) (h : x < 65536) : wB (x : Int) 4677832637954392064 4678113975492149248 = (decide (55296 ≤ x) && decide (x ≤ 57343)) :=
  wB_nat x 55296 57343 _ _ (by decide +kernel) (by decide +kernel) (by decide) (by decide) (by omega)
theorem sub_const (x y : Nat) (h1 : 55296 ≤ x) (h2 : x < 65536) (h3 : 56320 ≤ y) (h4 : y < 65536) (w : World) :
    (binOp .sub 74 (.complex .f64 (floatOfInt .f64 (x : Int)) (floatOfInt .f64 (y : Int))) (.complex .f64 4677832637954392064 4677973375442747392)).run Tryd.prog w = .ok (.complex .f64 (floatOfInt .f64 ((x : Int) - 55296)) (floatOfInt .f64 ((y : Int) - 56320))) w := by
  refine run_complex_sum w .sub (.inr rfl) _ _ _ _ _ _ _ _ ?_
  have e1 : floatOfInt .f64 55296 = 4677832637954392064 := by decide +kernel
  have e2 : floatOfInt .f64 56320 = 4677973375442747392 := by decide +kernel
  unfold cSumBits
  rw [← e1, ← e2, FloatInt.sub_nearest x 55296 (by omega) (by decide) (by omega), FloatInt.sub_nearest y 56320 (by omega) (by decide) (by omega)]
  rfl
/-- The first character of UTF-16 from a place on, and how many bytes it takes; 0, if none can be read. -/
def wideAt (s : ByteArray) (pos : Nat) (high : Bool) : Nat × Nat :=
  if s.size < pos + 2 then (0, 0)
  else if (decide (55296 ≤ unitN s pos high) && decide (unitN s pos high ≤ 57343)) = false then (unitN s pos high, 2)
  else if s.size < pos + 4 then (0, 0)
  else if pairB (unitN s pos high) (unitN s (pos + 2) high) = false then (0, 0)
  else (65536 + (unitN s pos high - 55296) * 1024 + (unitN s (pos + 2) high - 56320), 4)
theorem ret_wide {x : Nat × Nat} {a b : Nat} (h : x = (a, b)) : Ending.returned (.tuple #[.int .i32 (a : Int), .int .i64 (b : Int)]) = .returned (.tuple #[.int .i32 (x.1 : Int), .int .i64 (x.2 : Int)]) := by rw [h]
theorem get_list (s : ByteArray) (i : Nat) (h : i < s.size) : s.get! i = s.data.toList[i]'h := by
  show s.data[i]! = _
  rw [getElem!_pos s.data i h]; rfl
theorem get_tail (s : ByteArray) (p i : Nat) (hp : p ≤ s.size) : (s.extract p s.size).get! i = s.get! (p + i) := by
  have z : (s.extract p s.size).size = s.size - p := by rw [ByteArray.size_extract]; omega
  by_cases hi : i < s.size - p
  · rw [get_list _ i (by omega), get_list s (p + i) (by omega)]
    simp [ByteArray.data_extract]
  · have a : (s.extract p s.size).get! i = default := by
      show (s.extract p s.size).data[i]! = _
      exact getElem!_neg _ _ (by show ¬ i < (s.extract p s.size).size; omega)
    have b : s.get! (p + i) = default := by
      show s.data[p + i]! = _
      exact getElem!_neg _ _ (by show ¬ p + i < s.size; omega)
    rw [a, b]
theorem unitN_tail (s : ByteArray) (p k : Nat) (high : Bool) (hp : p ≤ s.size) : unitN (s.extract p s.size) k high = unitN s (p + k) high := by
  unfold unitN
  rw [get_tail s p k hp, get_tail s p (k + 1) hp, Nat.add_assoc]
theorem wideAt_tail (s : ByteArray) (p : Nat) (high : Bool) (hp : p ≤ s.size) : wideAt (s.extract p s.size) 0 high = wideAt s p high := by
  have z : (s.extract p s.size).size = s.size - p := by rw [ByteArray.size_extract]; omega
  unfold wideAt
  rw [z, unitN_tail s p 0 high hp, unitN_tail s p (0 + 2) high hp]
  simp only [Nat.add_zero, Nat.zero_add]
  have c1 : (s.size - p < 2) = (s.size < p + 2) := propext ⟨fun _ => by omega, fun _ => by omega⟩
  have c2 : (s.size - p < 4) = (s.size < p + 4) := propext ⟨fun _ => by omega, fun _ => by omega⟩
  simp only [c1, c2]
end Go.Proofs.YtgabgeadeeaihaaDoor
