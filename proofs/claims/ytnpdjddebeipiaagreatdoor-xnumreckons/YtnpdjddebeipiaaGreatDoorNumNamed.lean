/- The world under one name; a number's variable. -/
import Derived.Test.YtnpdjddebeipiaaGreatDoorNumWide
namespace Go.Proofs.YtnpdjddebeipiaaGreatDoor
open Go.RowKit
/-- The world under one name. -/
theorem wp_named {P : Program} {c : Code} {Q : Exit → Act → World → Prop} {a : Act} {w : World} (h : ∀ W, W = w → c.wp P Q a W) : c.wp P Q a w := h w rfl
/-- A variable of a number holds it, and may be written. -/
structure NumAt (w : World) (b : Nat) (k v : Int) : Prop where
  kind : w.cell? ⟨b, 0, none⟩ = some (.int .i64 k)
  val : w.cell? ⟨b, 1, none⟩ = some (.int .i64 v)
  o0 : w.frozen? ⟨b, 0, none⟩ = false
  o1 : w.frozen? ⟨b, 1, none⟩ = false
theorem NumAt.below {w w' : World} {b : Nat} {k v : Int} (h : NumAt w b k v) (hb : Below w.heap.size w w') : NumAt w' b k v :=
  ⟨kept_cell hb h.kind, kept_cell hb h.val, kept_open hb h.kind h.o0, kept_open hb h.val h.o1⟩
end Go.Proofs.YtnpdjddebeipiaaGreatDoor
