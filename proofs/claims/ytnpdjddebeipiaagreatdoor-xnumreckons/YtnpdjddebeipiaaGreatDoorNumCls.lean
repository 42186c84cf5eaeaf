/- A statement that leaves its order open, whose steps read and call: in the order of the text, over a class of worlds. -/
import Derived.Test.YtnpdjddebeipiaaGreatDoorNumInv
import Derived.BigQuiet
namespace Go.Proofs.YtnpdjddebeipiaaGreatDoor
open Go.RowKit
theorem wp_region_cls {P : Program} {id : Nat} {Q : Exit → Act → World → Prop} {a : Act} {w : World} {l : List Oper} (C : World → Prop) (hm : P.follows .mixedOrders = true) (hB : Region.lexB .any l.toArray = true) (hC : C w.drew)
    (h : wpQuiet P l.toArray C (fun a' => ∀ w', C w' → Q .normal a' w') l a) : (Code.region id l.toArray true).wp P Q a w :=
  wp_region_quiet (C := C) hm hB hC (by simpa using h)
/-- Worlds in which a number's variable, another's value and a third number's stand. -/
structure Cls5 (X : World) (p q s : Nat) (r v u : Int) (w' : World) : Prop where
  bel : Below X.heap.size X w'
  r0 : w'.cell? ⟨p, 0, none⟩ = some (.int .i64 0)
  r1 : w'.cell? ⟨p, 1, none⟩ = some (.int .i64 r)
  a0 : w'.cell? ⟨q, 0, none⟩ = some (.int .i64 0)
  a1 : w'.cell? ⟨q, 1, none⟩ = some (.int .i64 v)
  b1 : w'.cell? ⟨s, 1, none⟩ = some (.int .i64 u)
theorem Cls5.below {X w w' : World} {p q s : Nat} {r v u : Int} (h : Cls5 X p q s r v u w) (hb : Below w.heap.size w w') : Cls5 X p q s r v u w' :=
  ⟨Below.then h.bel hb, kept_cell hb h.r0, kept_cell hb h.r1, kept_cell hb h.a0, kept_cell hb h.a1, kept_cell hb h.b1⟩
end Go.Proofs.YtnpdjddebeipiaaGreatDoor
