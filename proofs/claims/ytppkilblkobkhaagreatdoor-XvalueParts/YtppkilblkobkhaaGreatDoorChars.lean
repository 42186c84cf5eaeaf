/- Which characters may be, are blanks, lie in a range: the contracts of xchar's and the reference's small tests. -/
import Derived.Test.YtppkilblkobkhaaGreatDoorBase
import Derived.Test.YtppkilblkobkhaaGreatDoorFloats
namespace Go.Proofs.YtppkilblkobkhaaGreatDoor
open Go.RowKit
def wB (r : Int) (fa fb : Nat) : Bool :=
  (FloatKind.f64.format.order fa (floatOfInt FloatKind.f64 r) == some Ordering.lt || FloatKind.f64.format.order fa (floatOfInt FloatKind.f64 r) == some Ordering.eq) &&
  (FloatKind.f64.format.order (floatOfInt FloatKind.f64 r) fb == some Ordering.lt || FloatKind.f64.format.order (floatOfInt FloatKind.f64 r) fb == some Ordering.eq)
def charB (r : Int) : Bool := r == 9 || r == 10 || r == 13 || wB r 4629700416936869888 4677832500515438592 || wB r 4678114112931102720 4679239600521084928 || wB r 4679240012837945344 4697535882029170688
end Go.Proofs.YtppkilblkobkhaaGreatDoor
