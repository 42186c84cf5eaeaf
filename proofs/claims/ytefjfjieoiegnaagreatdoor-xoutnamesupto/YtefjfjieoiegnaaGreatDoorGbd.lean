/- Several texts, laid as one. -/
import Derived.Test.YtefjfjieoiegnaaGreatDoorXmlRefs
import Derived.Test.YtefjfjieoiegnaaGreatDoorGax
import Derived.Test.YtefjfjieoiegnaaGreatDoorGbc
import Derived.Maps.Views
/- What a reference comes to, whatever is declared: xmlscan's spend, add and addText. -/
namespace Go.Proofs.YtefjfjieoiegnaaGreatDoor
open Go.RowKit
/-- An expansion in memory, with its reader's block, its text and the entities that are open in it. -/
structure ExpS (w : World) (C B q p m : Nat) (flat : Bool) (vt vo : Value) (tt : List Nat) (opn : List (List Nat)) (sp : Nat) (ents : List (List Nat × List Nat)) (c : Array Value) : Prop where
  blk : ExpAt w q p flat vt vo
  rd : w.heap[p]? = some (.cells c 63 (0, 0))
  csz : c.size = 10
  c2 : c[2]? = some (.map (some m))
  c3 : c[3]? = some (.int .i64 (sp : Nat))
  txt : w.ownsRow C 5 1 vt (tx tt).length (byteCells (tx tt))
  opn : w.ownsRow C 9 1 vo opn.length (opnRow opn)
  ents : EntsAt w B m ents
  lo : C ≤ q
end Go.Proofs.YtefjfjieoiegnaaGreatDoor
/- Entities, looked up. -/
namespace Go.Proofs.YtefjfjieoiegnaaGreatDoor
open Go.RowKit
/-- No name twice. -/
def UniqE (ents : List (List Nat × List Nat)) : Prop := ents.Pairwise fun a b => a.1 ≠ b.1
theorem entsD_snoc (l : List (List Nat × List Nat)) (x : List Nat × List Nat) : entsD (l ++ [x]) = (entsD l).put (.string (tx x.1)) (.agg [.lit (.string (tx x.2))]) := by
  unfold entsD
  rw [List.foldl_append]
  rfl
end Go.Proofs.YtefjfjieoiegnaaGreatDoor
