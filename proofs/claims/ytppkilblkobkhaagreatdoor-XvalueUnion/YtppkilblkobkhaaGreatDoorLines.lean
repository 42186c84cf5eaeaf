/- Line ends, and the decoding of UTF-8: xchar's endLines and decodeAny. -/
import Derived.Test.YtppkilblkobkhaaGreatDoorFault
import Derived.Lib.Replace
import Derived.Lib.IndexLaws
namespace Go.Proofs.YtppkilblkobkhaaGreatDoor
open Go.RowKit
/-- What the package variables of the library hold: MaxLen an int, utf8's tables as their text lays them. -/
structure Env (w : World) : Prop where
  len : ∃ m, w.cell? ⟨2, 0, none⟩ = some (.int .i64 m)
  tabs : Lib.Utf8Tabs 0 1 w
theorem Env.below {w w' : World} (h : Env w) (hb : Below w.heap.size w w') : Env w' := by
  obtain ⟨m, hm⟩ := h.len
  exact ⟨⟨m, by rw [hb.cell (block_lt_of_cell hm)]; exact hm⟩, Utf8Tabs_below h.tabs hb⟩
theorem Below.then {a b c : World} (h : Below a.heap.size a b) (k : Below b.heap.size b c) : Below a.heap.size a c := h.trans (k.mono h.size)
end Go.Proofs.YtppkilblkobkhaaGreatDoor
