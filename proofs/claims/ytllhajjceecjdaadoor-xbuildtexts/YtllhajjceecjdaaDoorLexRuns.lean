/- The digits, the name that a text begins with: xplex's digitsAhead and nameAhead. -/
import Derived.Test.YtllhajjceecjdaaDoorLexTx
import Derived.Test.YtllhajjceecjdaaDoorLexSame
namespace Go.Proofs.YtllhajjceecjdaaDoor
open Go.RowKit
end Go.Proofs.YtllhajjceecjdaaDoor
