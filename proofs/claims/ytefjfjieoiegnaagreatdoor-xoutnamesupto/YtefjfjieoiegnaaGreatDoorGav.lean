/- Several texts, laid as one. -/
import Derived.Test.YtefjfjieoiegnaaGreatDoorXmlNum
/- References: xmlscan's ofTheFive and readReference. -/
namespace Go.Proofs.YtefjfjieoiegnaaGreatDoor
open Go.RowKit
end Go.Proofs.YtefjfjieoiegnaaGreatDoor
/- What a reference comes to where no entity is declared: xmlscan's spend and add. -/
namespace Go.Proofs.YtefjfjieoiegnaaGreatDoor
open Go.RowKit
/-- An expansion's block. -/
def expArr (p : Nat) (flat : Bool) (vt vo : Value) : Array Value := #[.pointer (some ⟨p, 0, none⟩), .bool flat, vt, vo]
abbrev ExpAt (w : World) (q p : Nat) (flat : Bool) (vt vo : Value) : Prop := w.heap[q]? = some (.cells (expArr p flat vt vo) 138 (0, 0))
/-- Where an expansion's text was written, and all else stands. -/
structure Grew (q p : Nat) (vt : Value) (w w' : World) : Prop where
  os : w'.os = w.os
  tape : w'.tape = w.tape
  output : w'.output = w.output
  size : w.heap.size ≤ w'.heap.size
  block : ∀ k, k < w.heap.size → k ≠ q → vt.ownBlock ≠ some k → w'.heap[k]? = w.heap[k]?
theorem Grew.low {q p B : Nat} {vt : Value} {w w' : World} (h : Grew q p vt w w') (hB : B ≤ w.heap.size) (hq : B ≤ q) (hv : ∀ k, vt.ownBlock = some k → B ≤ k) : Below B w w' :=
  ⟨h.os, h.tape, h.output, h.size, fun k hk => h.block k (by omega) (by omega) (fun e => by have := hv k e; omega)⟩
end Go.Proofs.YtefjfjieoiegnaaGreatDoor
