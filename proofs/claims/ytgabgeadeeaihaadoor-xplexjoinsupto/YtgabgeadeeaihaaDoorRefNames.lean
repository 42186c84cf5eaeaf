/- The reference's Bad, IsText, IsName and Split. -/
import Derived.Test.YtgabgeadeeaihaaDoorJoinPlain
import Derived.Test.YtgabgeadeeaihaaDoorRefBad
import Derived.Test.YtgabgeadeeaihaaDoorRefIn
namespace Go.Proofs.YtgabgeadeeaihaaDoor
open Go.RowKit
def textB (s : ByteArray) : Bool := (fault s).1 == 0
/-- The reference's IsName, behind its tests. -/
def nameFromR (s : ByteArray) : Nat → Nat → Bool
  | 0, _ => true
  | f + 1, pos => if pos < s.size then
      (if (((pos : Int) == 0 && !(inL (Utf8.decode s pos).1 beginL)) || !(inL (Utf8.decode s pos).1 beginL || inL (Utf8.decode s pos).1 onL)) then false else nameFromR s f (pos + (Utf8.decode s pos).2))
    else true
end Go.Proofs.YtgabgeadeeaihaaDoor
