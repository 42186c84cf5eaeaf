/- Sums, products and quotients of 128 bits: xnum's addWide, product and quotient. -/
import Derived.Test.YtppkilblkobkhaaGreatDoorNumSmall
import Derived.Laws.Externs
import Derived.ScopeJumps
import Derived.WalkMore
namespace Go.Proofs.YtppkilblkobkhaaGreatDoor
open Go.RowKit
/-- A variable of 128 bits holds a number, and may be written. -/
structure WideAt (w : World) (k n : Nat) : Prop where
  hi : w.cell? ⟨k, 0, none⟩ = some (.int .u64 ((n : Int) / 18446744073709551616))
  lo : w.cell? ⟨k, 1, none⟩ = some (.int .u64 ((n : Int) % 18446744073709551616))
  o0 : w.frozen? ⟨k, 0, none⟩ = false
  o1 : w.frozen? ⟨k, 1, none⟩ = false
theorem WideAt.below {w w' : World} {k n : Nat} (h : WideAt w k n) (hb : Below w.heap.size w w') : WideAt w' k n :=
  ⟨kept_cell hb h.hi, kept_cell hb h.lo, kept_open hb h.hi h.o0, kept_open hb h.lo h.o1⟩
/-- .. when it is written. -/
def putW (w : World) (k : Nat) (x y : Int) : World := (w.setCell ⟨k, 0, none⟩ (.int .u64 x)).setCell ⟨k, 1, none⟩ (.int .u64 y)
theorem WideAt.put {w : World} {k n : Nat} (h : WideAt w k n) (m : Nat) : WideAt (putW w k ((m : Int) / 18446744073709551616) ((m : Int) % 18446744073709551616)) k m := by
  obtain ⟨h1, h2, h3, h4⟩ := h
  unfold putW
  refine ⟨?_, ?_, ?_, ?_⟩
  all_goals simp [go_sem, *]
end Go.Proofs.YtppkilblkobkhaaGreatDoor
