/- Several texts, laid as one. -/
import Derived.Test.YtllhajjceecjdaaDoorBase
import Derived.Laws.Externs
import Derived.ScopeJumps
import Derived.WalkMore
/- Numbers' kinds and signs: xnum's small functions. -/
namespace Go.Proofs.YtllhajjceecjdaaDoor
open Go.RowKit
theorem Below.then {a b c : World} (h : Below a.heap.size a b) (k : Below b.heap.size b c) : Below a.heap.size a c := h.trans (k.mono h.size)
/-- A cell that lay there, and was not shut, behind a call. -/
theorem kept_cell {w w' : World} {p : Addr} {v : Value} (hb : Below w.heap.size w w') (h : w.cell? p = some v) : w'.cell? p = some v := by
  rw [hb.cell (block_lt_of_cell h)]; exact h
theorem kept_open {w w' : World} {p : Addr} {v : Value} (hb : Below w.heap.size w w') (hc : w.cell? p = some v) (h : w.frozen? p = false) : w'.frozen? p = false := by
  rw [hb.frozen (block_lt_of_cell hc)]; exact h
end Go.Proofs.YtllhajjceecjdaaDoor
/- Sums, products and quotients of 128 bits: xnum's addWide, product and quotient. -/
namespace Go.Proofs.YtllhajjceecjdaaDoor
open Go.RowKit
/-- A variable of 128 bits holds a number, and may be written. -/
structure WideAt (w : World) (k n : Nat) : Prop where
  hi : w.cell? ⟨k, 0, none⟩ = some (.int .u64 ((n : Int) / 18446744073709551616))
  lo : w.cell? ⟨k, 1, none⟩ = some (.int .u64 ((n : Int) % 18446744073709551616))
  o0 : w.frozen? ⟨k, 0, none⟩ = false
  o1 : w.frozen? ⟨k, 1, none⟩ = false
theorem WideAt.below {w w' : World} {k n : Nat} (h : WideAt w k n) (hb : Below w.heap.size w w') : WideAt w' k n :=
  ⟨kept_cell hb h.hi, kept_cell hb h.lo, kept_open hb h.hi h.o0, kept_open hb h.lo h.o1⟩
/-- .. when it is written. -/
def putW (w : World) (k : Nat) (x y : Int) : World := (w.setCell ⟨k, 0, none⟩ (.int .u64 x)).setCell ⟨k, 1, none⟩ (.int .u64 y)
theorem WideAt.put {w : World} {k n : Nat} (h : WideAt w k n) (m : Nat) : WideAt (putW w k ((m : Int) / 18446744073709551616) ((m : Int) % 18446744073709551616)) k m := by
  obtain ⟨h1, h2, h3, h4⟩ := h
  unfold putW
  refine ⟨?_, ?_, ?_, ?_⟩
  all_goals simp [go_sem, *]
theorem WideAt.keep {w : World} {k j n : Nat} (h : WideAt w k n) (hn : k ≠ j) (x y : Int) : WideAt (putW w j x y) k n := by
  obtain ⟨h1, h2, h3, h4⟩ := h
  have hn' : j ≠ k := fun e => hn e.symm
  unfold putW
  refine ⟨?_, ?_, ?_, ?_⟩
  all_goals simp [go_sem, *]
end Go.Proofs.YtllhajjceecjdaaDoor
/- The world under one name; a number's variable. -/
namespace Go.Proofs.YtllhajjceecjdaaDoor
open Go.RowKit
/-- A variable of a number holds it, and may be written. -/
structure NumAt (w : World) (b : Nat) (k v : Int) : Prop where
  kind : w.cell? ⟨b, 0, none⟩ = some (.int .i64 k)
  val : w.cell? ⟨b, 1, none⟩ = some (.int .i64 v)
  o0 : w.frozen? ⟨b, 0, none⟩ = false
  o1 : w.frozen? ⟨b, 1, none⟩ = false
theorem NumAt.below {w w' : World} {b : Nat} {k v : Int} (h : NumAt w b k v) (hb : Below w.heap.size w w') : NumAt w' b k v :=
  ⟨kept_cell hb h.kind, kept_cell hb h.val, kept_open hb h.kind h.o0, kept_open hb h.val h.o1⟩
end Go.Proofs.YtllhajjceecjdaaDoor
