/- Which characters may be: the reference's IsChar. -/
import Derived.Test.YtfgifocgkiploaaGreatDoorChars
namespace Go.Proofs.YtfgifocgkiploaaGreatDoor
open Go.RowKit
end Go.Proofs.YtfgifocgkiploaaGreatDoor
