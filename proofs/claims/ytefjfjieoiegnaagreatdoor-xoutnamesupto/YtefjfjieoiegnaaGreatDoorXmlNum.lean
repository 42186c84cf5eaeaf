/- References by numbers: xmlscan's readNumber and ofTheFive. -/
import Derived.Test.YtefjfjieoiegnaaGreatDoorGat
namespace Go.Proofs.YtefjfjieoiegnaaGreatDoor
open Go.RowKit
structure RefAt (w : World) (b : Nat) (x y : ByteArray) (n : Int) : Prop where
  c0 : w.cell? ⟨b, 0, none⟩ = some (.string x)
  c1 : w.cell? ⟨b, 1, none⟩ = some (.string y)
  c2 : w.cell? ⟨b, 2, none⟩ = some (.int .i64 n)
  o0 : w.frozen? ⟨b, 0, none⟩ = false
  o1 : w.frozen? ⟨b, 1, none⟩ = false
  o2 : w.frozen? ⟨b, 2, none⟩ = false
theorem RefAt.below {w w' : World} {b : Nat} {x y : ByteArray} {n : Int} (h : RefAt w b x y n) (hb : Below w.heap.size w w') : RefAt w' b x y n :=
  ⟨keptC hb h.c0, keptC hb h.c1, keptC hb h.c2, keptO hb h.c0 h.o0, keptO hb h.c1 h.o1, keptO hb h.c2 h.o2⟩
theorem RefAt.new (w : World) (x y : ByteArray) (n : Int) (t : TypeId) : RefAt (w.alloc (.cells #[.string x, .string y, .int .i64 n] t)) w.heap.size x y n := by
  refine ⟨?_, ?_, ?_, ?_, ?_, ?_⟩
  all_goals simp [go_sem]
theorem RefAt.iterAt {w : World} {b : Nat} {x y : ByteArray} {n : Int} (h : RefAt w b x y n) {k : Nat} (hk : b ≠ k) (s : ByteArray) (pos : Nat) : RefAt (w.iterAt k s pos) b x y n := by
  have e := Lib.iterAt_other w k b s pos hk
  obtain ⟨c0, c1, c2, o0, o1, o2⟩ := h
  refine ⟨?_, ?_, ?_, ?_, ?_, ?_⟩
  all_goals (first | (unfold World.cell? at *; rw [e]; assumption) | (unfold World.frozen? at *; rw [e]; assumption))
end Go.Proofs.YtefjfjieoiegnaaGreatDoor
