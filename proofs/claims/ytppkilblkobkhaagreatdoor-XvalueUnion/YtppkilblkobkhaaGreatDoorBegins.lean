/- Which characters begin names and go on in them: xchar's Begins and GoesOn. -/
import Derived.Test.YtppkilblkobkhaaGreatDoorChars
namespace Go.Proofs.YtppkilblkobkhaaGreatDoor
open Go.RowKit
section
variable {P : Program} (w : World) (a : Addr) (m : Mode)
theorem run_store_complex (k : FloatKind) (x y : Nat) : (store a (.complex k x y) m).run P w = stored P w a (.complex k x y) m := run_store P w a _ m rfl
end
attribute [local go_sem] run_store_complex
end Go.Proofs.YtppkilblkobkhaaGreatDoor
