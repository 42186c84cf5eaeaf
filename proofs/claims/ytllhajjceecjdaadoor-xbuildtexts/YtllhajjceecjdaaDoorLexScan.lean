/- A text's tokens: where they stand, and that they are read again as they were if they are parted by blanks: plain lemmas. -/
import Derived.Test.YtllhajjceecjdaaDoorLexSame
namespace Go.Proofs.YtllhajjceecjdaaDoor
end Go.Proofs.YtllhajjceecjdaaDoor
