/- A token in memory. -/
import Derived.Test.YtgabgeadeeaihaaDoorLexKind
namespace Go.Proofs.YtgabgeadeeaihaaDoor
open Go.RowKit
theorem kept_cell {w w' : World} {p : Addr} {v : Value} (hb : Below w.heap.size w w') (h : w.cell? p = some v) : w'.cell? p = some v := by
  rw [hb.cell (block_lt_of_cell h)]; exact h
theorem kept_open {w w' : World} {p : Addr} {v : Value} (hb : Below w.heap.size w w') (h : w.cell? p = some v) (o : w.frozen? p = false) : w'.frozen? p = false := by
  rw [hb.frozen (block_lt_of_cell h)]; exact o
structure LexAt (w : World) (b : Nat) (k : Int) (x : ByteArray) (a : Int) : Prop where
  c0 : w.cell? ⟨b, 0, none⟩ = some (.int .i64 k)
  c1 : w.cell? ⟨b, 1, none⟩ = some (.string x)
  c2 : w.cell? ⟨b, 2, none⟩ = some (.int .i64 a)
  o0 : w.frozen? ⟨b, 0, none⟩ = false
  o1 : w.frozen? ⟨b, 1, none⟩ = false
  o2 : w.frozen? ⟨b, 2, none⟩ = false
theorem LexAt.below {w w' : World} {b : Nat} {k a : Int} {x : ByteArray} (h : LexAt w b k x a) (hb : Below w.heap.size w w') : LexAt w' b k x a :=
  ⟨kept_cell hb h.c0, kept_cell hb h.c1, kept_cell hb h.c2, kept_open hb h.c0 h.o0, kept_open hb h.c1 h.o1, kept_open hb h.c2 h.o2⟩
theorem LexAt.new (w : World) (k a : Int) (x : ByteArray) (t : TypeId) : LexAt (w.alloc (.cells #[.int .i64 k, .string x, .int .i64 a] t)) w.heap.size k x a := by
  refine ⟨?_, ?_, ?_, ?_, ?_, ?_⟩
  all_goals simp [go_sem]
def lexV (k : Int) (x : ByteArray) (a : Int) : Value := .agg #[.int .i64 k, .string x, .int .i64 a]
end Go.Proofs.YtgabgeadeeaihaaDoor
