/- A text in UTF-16: xchar's splitPair and encodeWide. -/
import Derived.Test.YtppkilblkobkhaaGreatDoorRowB
import Derived.Laws.ComplexArith
import Derived.Lib.SlBytesConst
namespace Go.Proofs.YtppkilblkobkhaaGreatDoor
open Go.RowKit
theorem rune_le (s : ByteArray) (pos : Nat) : (Utf8.decode s pos).1 ≤ 1114111 := by
  have h := Lib.decodeL_rune (s.data.toList.drop pos)
  rw [Lib.decodeL_drop] at h
  exact h
end Go.Proofs.YtppkilblkobkhaaGreatDoor
