/- Several texts, laid as one. -/
import Derived.Test.YtllhajjceecjdaaGreatDoorBase
import Derived.Test.YtllhajjceecjdaaGreatDoorGac
/- Ranges of characters, as lists of their ends: plain lemmas. -/
namespace Go.Proofs.YtllhajjceecjdaaGreatDoor
open Go.RowKit
def inL (r : Int) : List Int → Bool
  | lo :: hi :: t => (decide (lo ≤ r) && decide (r ≤ hi)) || inL r t
  | _ => false
def beginL : List Int := [65, 90, 97, 122, 95, 95, 192, 214, 216, 246, 248, 767, 880, 893, 895, 8191, 8204, 8205, 8304, 8591, 11264, 12271, 12289, 55295, 63744, 64975, 65008, 65533, 65536, 983039]
def onL : List Int := [45, 45, 46, 46, 48, 57, 183, 183, 768, 879, 8255, 8256]
end Go.Proofs.YtllhajjceecjdaaGreatDoor
/- The tests by floats and the tests by numbers are the same tests, for every character of 32 bits. -/
namespace Go.Proofs.YtllhajjceecjdaaGreatDoor
open Go.RowKit
theorem wB_eq (r lo hi : Int) (fa fb : Nat) (h1 : floatOfInt .f64 lo = fa) (h2 : floatOfInt .f64 hi = fb) (hl : lo.natAbs < 2 ^ 53) (hh : hi.natAbs < 2 ^ 53) (hr : r.natAbs < 2 ^ 53) :
    wB r fa fb = (decide (lo ≤ r) && decide (r ≤ hi)) := by
  subst h1 h2
  unfold wB
  rw [FloatInt.le_nearest lo r hl hr, FloatInt.le_nearest r hi hr hh]
theorem charB_eq (r : Int) (hr : r.natAbs < 2 ^ 53) : charB r = charR r := by
  unfold charB charR
  rw [wB_eq r 32 55295 _ _ (by decide +kernel) (by decide +kernel) (by decide) (by decide) hr,
    wB_eq r 57344 65533 _ _ (by decide +kernel) (by decide +kernel) (by decide) (by decide) hr,
    wB_eq r 65536 1114111 _ _ (by decide +kernel) (by decide +kernel) (by decide) (by decide) hr]
theorem beginB_eq (r : Int) (hr : r.natAbs < 2 ^ 53) : beginB r = inL r beginL := by
  unfold beginB
  rw [wB_eq r 65 90 _ _ (by decide +kernel) (by decide +kernel) (by decide) (by decide) hr,
    wB_eq r 95 95 _ _ (by decide +kernel) (by decide +kernel) (by decide) (by decide) hr,
    wB_eq r 97 122 _ _ (by decide +kernel) (by decide +kernel) (by decide) (by decide) hr,
    wB_eq r 192 214 _ _ (by decide +kernel) (by decide +kernel) (by decide) (by decide) hr,
    wB_eq r 216 246 _ _ (by decide +kernel) (by decide +kernel) (by decide) (by decide) hr,
    wB_eq r 248 767 _ _ (by decide +kernel) (by decide +kernel) (by decide) (by decide) hr,
    wB_eq r 880 893 _ _ (by decide +kernel) (by decide +kernel) (by decide) (by decide) hr,
    wB_eq r 895 8191 _ _ (by decide +kernel) (by decide +kernel) (by decide) (by decide) hr,
    wB_eq r 8204 8205 _ _ (by decide +kernel) (by decide +kernel) (by decide) (by decide) hr,
    wB_eq r 8304 8591 _ _ (by decide +kernel) (by decide +kernel) (by decide) (by decide) hr,
    wB_eq r 11264 12271 _ _ (by decide +kernel) (by decide +kernel) (by decide) (by decide) hr,
    wB_eq r 12289 55295 _ _ (by decide +kernel) (by decide +kernel) (by decide) (by decide) hr,
    wB_eq r 63744 64975 _ _ (by decide +kernel) (by decide +kernel) (by decide) (by decide) hr,
    wB_eq r 65008 65533 _ _ (by decide +kernel) (by decide +kernel) (by decide) (by decide) hr,
    wB_eq r 65536 983039 _ _ (by decide +kernel) (by decide +kernel) (by decide) (by decide) hr]
  rw [Bool.eq_iff_iff]
  simp [beginL, inL]
  omega
theorem goesB_eq (r : Int) (hr : r.natAbs < 2 ^ 53) : goesB r = (inL r beginL || inL r onL) := by
  unfold goesB
  rw [beginB_eq r hr, wB_eq r 48 57 _ _ (by decide +kernel) (by decide +kernel) (by decide) (by decide) hr,
    wB_eq r 768 879 _ _ (by decide +kernel) (by decide +kernel) (by decide) (by decide) hr,
    wB_eq r 8255 8256 _ _ (by decide +kernel) (by decide +kernel) (by decide) (by decide) hr]
  cases inL r beginL
  · rw [Bool.eq_iff_iff]
    simp [onL, inL]
    omega
  · simp
end Go.Proofs.YtllhajjceecjdaaGreatDoor
