/- The world under one name; a number's variable. -/
import Derived.Test.YtppkilblkobkhaaGreatDoorNumWide
namespace Go.Proofs.YtppkilblkobkhaaGreatDoor
open Go.RowKit
/-- A variable of a number holds it, and may be written. -/
structure NumAt (w : World) (b : Nat) (k v : Int) : Prop where
  kind : w.cell? ⟨b, 0, none⟩ = some (.int .i64 k)
  val : w.cell? ⟨b, 1, none⟩ = some (.int .i64 v)
  o0 : w.frozen? ⟨b, 0, none⟩ = false
  o1 : w.frozen? ⟨b, 1, none⟩ = false
theorem NumAt.below {w w' : World} {b : Nat} {k v : Int} (h : NumAt w b k v) (hb : Below w.heap.size w w') : NumAt w' b k v :=
  ⟨kept_cell hb h.kind, kept_cell hb h.val, kept_open hb h.kind h.o0, kept_open hb h.val h.o1⟩
end Go.Proofs.YtppkilblkobkhaaGreatDoor
