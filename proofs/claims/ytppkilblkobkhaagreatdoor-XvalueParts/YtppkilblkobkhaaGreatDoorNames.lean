/- Names and QNames: xchar's IsName and Split. -/
import Derived.Test.YtppkilblkobkhaaGreatDoorLines
import Derived.Lib.OthersKept
import Derived.Lib.ValidLaws
namespace Go.Proofs.YtppkilblkobkhaaGreatDoor
open Go.RowKit
theorem cut_le (s sep : List UInt8) : (Lib.cut s sep).1.length ≤ s.length ∧ (Lib.cut s sep).2.1.length ≤ s.length := by
  unfold Lib.cut
  split
  · simp only [List.length_take, List.length_drop]; omega
  · simp
theorem below_drewN (w : World) : ∀ n, Below w.heap.size w (w.drewN n)
  | 0 => Below.refl _ _
  | n + 1 => (below_drewN w n).drew
end Go.Proofs.YtppkilblkobkhaaGreatDoor
