/- Two rows of bytes, held against each other: the law's sameBytes. -/
import Derived.Test.YtdoobohdddghbaaDoorEncode
namespace Go.Proofs.YtdoobohdddghbaaDoor
open Go.RowKit
set_option maxHeartbeats 1000000 in
theorem sameBytes_any (a b : Value) (s t : ByteArray) (w : World) (ha : BytesAt w a s) (hb : BytesAt w b t) :
    Calls Tryd.prog 9 #[a, b] w fun e w' => e = .returned (.bool (s.toList == t.toList)) ∧ Below w.heap.size w w' := by
  have h1 := ha.2 w (Below.refl _ _)
  have h2 := hb.2 w (Below.refl _ _)
  obtain ⟨a1, c1, rfl⟩ := ha.1
  obtain ⟨a2, c2, rfl⟩ := hb.1
  clear ha hb
  go_enter Tryd.func9, Tryd.ntmps9
  go_wp2
  go_ret
  exact ⟨rfl, Below.refl _ _⟩
end Go.Proofs.YtdoobohdddghbaaDoor
