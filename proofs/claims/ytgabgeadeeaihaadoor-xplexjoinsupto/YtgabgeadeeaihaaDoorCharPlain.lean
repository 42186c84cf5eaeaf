/- The tests by floats and the tests by numbers are the same tests, for every character of 32 bits. -/
import Derived.Test.YtgabgeadeeaihaaDoorBegins
import Derived.Test.YtgabgeadeeaihaaDoorRanges
namespace Go.Proofs.YtgabgeadeeaihaaDoor
open Go.RowKit
theorem wB_eq (r lo hi : Int) (fa fb : Nat) (h1 : floatOfInt .f64 lo = fa) (h2 : floatOfInt .f64 hi = fb) (hl : lo.natAbs < 2 ^ 53) (hh : hi.natAbs < 2 ^ 53) (hr : r.natAbs < 2 ^ 53) :
    wB r fa fb = (decide (lo ≤ r) && decide (r ≤ hi)) := by
  subst h1 h2
  unfold wB
  rw [FloatInt.le_nearest lo r hl hr, FloatInt.le_nearest r hi hr hh]
theorem charB_eq (r : Int) (hr : r.natAbs < 2 ^ 53) : charB r = charR r := by
  unfold charB charR
  rw [wB_eq r 32 55295 _ _ (by decide +kernel) (by decide +kernel) (by decide) (by decide) hr,
    wB_eq r 57344 65533 _ _ (by decide +kernel) (by decide +kernel) (by decide) (by decide) hr,
    wB_eq r 65536 1114111 _ _ (by decide +kernel) (by decide +kernel) (by decide) (by decide) hr]
theorem beginB_eq (r : Int) (hr : r.natAbs < 2 ^ 53) : beginB r = inL r beginL := by
  unfold beginB
  rw [wB_eq r 65 90 _ _ (by decide +kernel) (by decide +kernel) (by decide) (by decide) hr,
    wB_eq r 95 95 _ _ (by decide +kernel) (by decide +kernel) (by decide) (by decide) hr,
    wB_eq r 97 122 _ _ (by decide +kernel) (by decide +kernel) (by decide) (by decide) hr,
    wB_eq r 192 214 _ _ (by decide +kernel) (by decide +kernel) (by decide) (by decide) hr,
    wB_eq r 216 246 _ _ (by decide +kernel) (by decide +kernel) (by decide) (by decide) hr,
    wB_eq r 248 767 _ _ (by decide +kernel) (by decide +kernel) (by decide) (by decide) hr,
    wB_eq r 880 893 _ _ (by decide +kernel) (by decide +kernel) (by decide) (by decide) hr,
    wB_eq r 895 8191 _ _ (by decide +kernel) (by decide +kernel) (by decide) (by decide) hr,
    wB_eq r 8204 8205 _ _ (by decide +kernel) (by decide +kernel) (by decide) (by decide) hr,
    wB_eq r 8304 8591 _ _ (by decide +kernel) (by decide +kernel) (by decide) (by decide) hr,
    wB_eq r 11264 12271 _ _ (by decide +kernel) (by decide +kernel) (by decide) (by decide) hr,
    wB_eq r 12289 55295 _ _ (by decide +kernel) (by decide +kernel) (by decide) (by decide) hr,
    wB_eq r 63744 64975 _ _ (by decide +kernel) (by decide +kernel) (by decide) (by decide) hr,
    wB_eq r 65008 65533 _ _ (by decide +kernel) (by decide +kernel) (by decide) (by decide) hr,
    wB_eq r 65536 983039 _ _ (by decide +kernel) (by decide +kernel) (by decide) (by decide) hr]
  rw [Bool.eq_iff_iff]
  simp [beginL, inL]
  omega
theorem goesB_eq (r : Int) (hr : r.natAbs < 2 ^ 53) : goesB r = (inL r beginL || inL r onL) := by
  unfold goesB
  rw [beginB_eq r hr, wB_eq r 48 57 _ _ (by decide +kernel) (by decide +kernel) (by decide) (by decide) hr,
    wB_eq r 768 879 _ _ (by decide +kernel) (by decide +kernel) (by decide) (by decide) hr,
    wB_eq r 8255 8256 _ _ (by decide +kernel) (by decide +kernel) (by decide) (by decide) hr]
  cases inL r beginL
  · rw [Bool.eq_iff_iff]
    simp [onL, inL]
    omega
  · simp
theorem goes_of_begins (r : Int) (h : beginB r = true) : goesB r = true := by simp [goesB, h]
theorem char_of_goes (r : Int) (hr : r.natAbs < 2 ^ 53) (h : goesB r = true) : charB r = true := by
  rw [goesB_eq r hr] at h
  rw [charB_eq r hr]
  simp [beginL, onL, inL] at h
  simp [charR]
  omega
end Go.Proofs.YtgabgeadeeaihaaDoor
