/- The first error of what should be UTF-8 of characters that may be: xchar's firstFault. -/
import Derived.Test.YtppkilblkobkhaaGreatDoorCharPlain
import Derived.Test.YtppkilblkobkhaaGreatDoorShelf
namespace Go.Proofs.YtppkilblkobkhaaGreatDoor
open Go.RowKit
theorem width_pos (s : ByteArray) (pos : Nat) (h : pos < s.size) : 1 ≤ (Utf8.decode s pos).2 := by
  by_cases ha : (s[pos]'h).toNat < 128
  · rw [decode_ascii s pos h ha]
    exact Nat.le_refl _
  · exact (decode_high s pos h (by omega)).2
/-- The bytes from a place on are those of the replacement character. -/
def markAt (s : ByteArray) (pos : Nat) : Bool := Lib.hasPrefix (s.data.toList.drop pos) [239, 191, 189]
/-- The first fault from a place on: its error's number and its place. -/
def faultFrom (s : ByteArray) : Nat → Nat → Int × Int
  | 0, _ => (0, 0)
  | f + 1, pos => if pos < s.size then
      (if ((Utf8.decode s pos).1 : Int) == 65533 && !markAt s pos then (3, (pos : Int))
       else if charB (Utf8.decode s pos).1 then faultFrom s f (pos + (Utf8.decode s pos).2) else (4, (pos : Int)))
    else (0, 0)
def fault (s : ByteArray) : Int × Int := faultFrom s (s.size + 1) 0
end Go.Proofs.YtppkilblkobkhaaGreatDoor
