/- The first error of what should be UTF-8 of characters that may be: xchar's firstFault. -/
import Derived.Test.YtppkilblkobkhaaGreatDoorCharPlain
import Derived.Test.YtppkilblkobkhaaGreatDoorShelf
namespace Go.Proofs.YtppkilblkobkhaaGreatDoor
open Go.RowKit
theorem width_pos (s : ByteArray) (pos : Nat) (h : pos < s.size) : 1 ≤ (Utf8.decode s pos).2 := by
  by_cases ha : (s[pos]'h).toNat < 128
  · rw [decode_ascii s pos h ha]
    exact Nat.le_refl _
  · exact (decode_high s pos h (by omega)).2
end Go.Proofs.YtppkilblkobkhaaGreatDoor
