/- Several texts, laid as one. -/
import Derived.Test.YthkkfldmoflfaaaGreatDoorGah
import Derived.Deep.RegionHeld3
import Derived.Deep.DrawnRows
import Derived.Deep.DeepCutAuto
import Derived.BigQuiet
import Derived.StillTail
/- A statement that leaves its order open, by what holds behind each of its steps. -/
namespace Go.Proofs.YthkkfldmoflfaaaGreatDoor
open Go.RowKit
/-- A new number's variable: where it lies, and what it holds. -/
structure NumBox (w W : World) (b : Nat) (q : Value) (z : Bool) (K U : Int) : Prop where
  ptr : q = .pointer (some ⟨b, 0, none⟩)
  ge : W.heap.size ≤ b
  at_ : NumAt w b (if z then K else 0) (if z then U else 0)
theorem NumBox.below {w w' W : World} {b : Nat} {q : Value} {z : Bool} {K U : Int} (h : NumBox w W b q z K U) (hb : Below w.heap.size w w') : NumBox w' W b q z K U := ⟨h.ptr, h.ge, h.at_.below hb⟩
theorem NumBox.lt {w W : World} {b : Nat} {q : Value} {z : Bool} {K U : Int} (h : NumBox w W b q z K U) : b < w.heap.size := block_lt_of_cell h.at_.kind
/-- .. when it is written. -/
def putN (w : World) (b : Nat) (k v : Int) : World := (w.setCell ⟨b, 0, none⟩ (.int .i64 k)).setCell ⟨b, 1, none⟩ (.int .i64 v)
theorem NumAt.put {w : World} {b : Nat} {k v : Int} (h : NumAt w b k v) (k' v' : Int) : NumAt (putN w b k' v') b k' v' := by
  obtain ⟨h1, h2, h3, h4⟩ := h
  unfold putN
  refine ⟨?_, ?_, ?_, ?_⟩
  all_goals simp [go_sem, *]
theorem putN_below {w w' : World} {B b : Nat} (h : Below B w w') (hk : B ≤ b) (k v : Int) : Below B w (putN w' b k v) := (h.setCell hk _).setCell hk _
theorem NumBox.put {w W : World} {b : Nat} {q : Value} {z : Bool} {K U : Int} (h : NumBox w W b q z K U) : NumBox (putN w b K U) W b q true K U := ⟨h.ptr, h.ge, h.at_.put K U⟩
theorem NumBox.new {w W : World} (hs : W.heap.size ≤ w.heap.size) (K U : Int) : NumBox (w.alloc (.cells #[.int .i64 0, .int .i64 0] 27)) W w.heap.size (.pointer (some ⟨w.heap.size, 0, none⟩)) false K U :=
  ⟨rfl, hs, ⟨by simp [go_sem], by simp [go_sem], by simp [go_sem], by simp [go_sem]⟩⟩
end Go.Proofs.YthkkfldmoflfaaaGreatDoor
/- A statement that leaves its order open, whose steps read and call: in the order of the text, over a class of worlds. -/
namespace Go.Proofs.YthkkfldmoflfaaaGreatDoor
open Go.RowKit
theorem wp_region_cls {P : Program} {id : Nat} {Q : Exit → Act → World → Prop} {a : Act} {w : World} {l : List Oper} (C : World → Prop) (hm : P.follows .mixedOrders = true) (hB : Region.lexB .any l.toArray = true) (hC : C w.drew)
    (h : wpQuiet P l.toArray C (fun a' => ∀ w', C w' → Q .normal a' w') l a) : (Code.region id l.toArray true).wp P Q a w :=
  wp_region_quiet (C := C) hm hB hC (by simpa using h)
/-- Worlds in which a number's variable, another's value and a third number's stand. -/
structure Cls5 (X : World) (p q s : Nat) (r v u : Int) (w' : World) : Prop where
  bel : Below X.heap.size X w'
  r0 : w'.cell? ⟨p, 0, none⟩ = some (.int .i64 0)
  r1 : w'.cell? ⟨p, 1, none⟩ = some (.int .i64 r)
  a0 : w'.cell? ⟨q, 0, none⟩ = some (.int .i64 0)
  a1 : w'.cell? ⟨q, 1, none⟩ = some (.int .i64 v)
  b1 : w'.cell? ⟨s, 1, none⟩ = some (.int .i64 u)
theorem Cls5.below {X w w' : World} {p q s : Nat} {r v u : Int} (h : Cls5 X p q s r v u w) (hb : Below w.heap.size w w') : Cls5 X p q s r v u w' :=
  ⟨Below.then h.bel hb, kept_cell hb h.r0, kept_cell hb h.r1, kept_cell hb h.a0, kept_cell hb h.a1, kept_cell hb h.b1⟩
end Go.Proofs.YthkkfldmoflfaaaGreatDoor
/- A statement that leaves its order open, whose steps read and call, and whose last steps (its stores) come behind all others, in one order. -/
namespace Go.Proofs.YthkkfldmoflfaaaGreatDoor
open Go.RowKit
section
variable {P : Program} {Q : Exit → Act → World → Prop}
end
end Go.Proofs.YthkkfldmoflfaaaGreatDoor
