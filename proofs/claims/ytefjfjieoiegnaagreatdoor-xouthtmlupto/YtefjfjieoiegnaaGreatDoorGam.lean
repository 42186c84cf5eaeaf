/- Several texts, laid as one. -/
import Derived.Test.YtefjfjieoiegnaaGreatDoorGal
/- References by numbers: xmlscan's readNumber and ofTheFive. -/
namespace Go.Proofs.YtefjfjieoiegnaaGreatDoor
open Go.RowKit
structure RefAt (w : World) (b : Nat) (x y : ByteArray) (n : Int) : Prop where
  c0 : w.cell? ⟨b, 0, none⟩ = some (.string x)
  c1 : w.cell? ⟨b, 1, none⟩ = some (.string y)
  c2 : w.cell? ⟨b, 2, none⟩ = some (.int .i64 n)
  o0 : w.frozen? ⟨b, 0, none⟩ = false
  o1 : w.frozen? ⟨b, 1, none⟩ = false
  o2 : w.frozen? ⟨b, 2, none⟩ = false
theorem RefAt.below {w w' : World} {b : Nat} {x y : ByteArray} {n : Int} (h : RefAt w b x y n) (hb : Below w.heap.size w w') : RefAt w' b x y n :=
  ⟨keptC hb h.c0, keptC hb h.c1, keptC hb h.c2, keptO hb h.c0 h.o0, keptO hb h.c1 h.o1, keptO hb h.c2 h.o2⟩
theorem RefAt.new (w : World) (x y : ByteArray) (n : Int) (t : TypeId) : RefAt (w.alloc (.cells #[.string x, .string y, .int .i64 n] t)) w.heap.size x y n := by
  refine ⟨?_, ?_, ?_, ?_, ?_, ?_⟩
  all_goals simp [go_sem]
theorem RefAt.iterAt {w : World} {b : Nat} {x y : ByteArray} {n : Int} (h : RefAt w b x y n) {k : Nat} (hk : b ≠ k) (s : ByteArray) (pos : Nat) : RefAt (w.iterAt k s pos) b x y n := by
  have e := Lib.iterAt_other w k b s pos hk
  obtain ⟨c0, c1, c2, o0, o1, o2⟩ := h
  refine ⟨?_, ?_, ?_, ?_, ?_, ?_⟩
  all_goals (first | (unfold World.cell? at *; rw [e]; assumption) | (unfold World.frozen? at *; rw [e]; assumption))
end Go.Proofs.YtefjfjieoiegnaaGreatDoor
/- References: xmlscan's ofTheFive and readReference. -/
namespace Go.Proofs.YtefjfjieoiegnaaGreatDoor
open Go.RowKit
end Go.Proofs.YtefjfjieoiegnaaGreatDoor
/- What a reference comes to where no entity is declared: xmlscan's spend and add. -/
namespace Go.Proofs.YtefjfjieoiegnaaGreatDoor
open Go.RowKit
/-- An expansion's block. -/
def expArr (p : Nat) (flat : Bool) (vt vo : Value) : Array Value := #[.pointer (some ⟨p, 0, none⟩), .bool flat, vt, vo]
abbrev ExpAt (w : World) (q p : Nat) (flat : Bool) (vt vo : Value) : Prop := w.heap[q]? = some (.cells (expArr p flat vt vo) 138 (0, 0))
/-- Where an expansion's text was written, and all else stands. -/
structure Grew (q p : Nat) (vt : Value) (w w' : World) : Prop where
  os : w'.os = w.os
  tape : w'.tape = w.tape
  output : w'.output = w.output
  size : w.heap.size ≤ w'.heap.size
  block : ∀ k, k < w.heap.size → k ≠ q → vt.ownBlock ≠ some k → w'.heap[k]? = w.heap[k]?
theorem Grew.low {q p B : Nat} {vt : Value} {w w' : World} (h : Grew q p vt w w') (hB : B ≤ w.heap.size) (hq : B ≤ q) (hv : ∀ k, vt.ownBlock = some k → B ≤ k) : Below B w w' :=
  ⟨h.os, h.tape, h.output, h.size, fun k hk => h.block k (by omega) (by omega) (fun e => by have := hv k e; omega)⟩
end Go.Proofs.YtefjfjieoiegnaaGreatDoor
