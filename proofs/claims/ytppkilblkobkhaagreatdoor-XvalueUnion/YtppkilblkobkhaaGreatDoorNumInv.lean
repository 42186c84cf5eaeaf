/- A statement that leaves its order open, by what holds behind each of its steps. -/
import Derived.Test.YtppkilblkobkhaaGreatDoorNumNamed
import Derived.Deep.RegionHeld3
import Derived.Deep.DrawnRows
import Derived.Deep.DeepCutAuto
namespace Go.Proofs.YtppkilblkobkhaaGreatDoor
open Go.RowKit
/-- A new number's variable: where it lies, and what it holds. -/
structure NumBox (w W : World) (b : Nat) (q : Value) (z : Bool) (K U : Int) : Prop where
  ptr : q = .pointer (some ⟨b, 0, none⟩)
  ge : W.heap.size ≤ b
  at_ : NumAt w b (if z then K else 0) (if z then U else 0)
theorem NumBox.below {w w' W : World} {b : Nat} {q : Value} {z : Bool} {K U : Int} (h : NumBox w W b q z K U) (hb : Below w.heap.size w w') : NumBox w' W b q z K U := ⟨h.ptr, h.ge, h.at_.below hb⟩
theorem NumBox.lt {w W : World} {b : Nat} {q : Value} {z : Bool} {K U : Int} (h : NumBox w W b q z K U) : b < w.heap.size := block_lt_of_cell h.at_.kind
/-- .. when it is written. -/
def putN (w : World) (b : Nat) (k v : Int) : World := (w.setCell ⟨b, 0, none⟩ (.int .i64 k)).setCell ⟨b, 1, none⟩ (.int .i64 v)
theorem NumAt.put {w : World} {b : Nat} {k v : Int} (h : NumAt w b k v) (k' v' : Int) : NumAt (putN w b k' v') b k' v' := by
  obtain ⟨h1, h2, h3, h4⟩ := h
  unfold putN
  refine ⟨?_, ?_, ?_, ?_⟩
  all_goals simp [go_sem, *]
theorem putN_below {w w' : World} {B b : Nat} (h : Below B w w') (hk : B ≤ b) (k v : Int) : Below B w (putN w' b k v) := (h.setCell hk _).setCell hk _
theorem NumBox.put {w W : World} {b : Nat} {q : Value} {z : Bool} {K U : Int} (h : NumBox w W b q z K U) : NumBox (putN w b K U) W b q true K U := ⟨h.ptr, h.ge, h.at_.put K U⟩
theorem NumBox.new {w W : World} (hs : W.heap.size ≤ w.heap.size) (K U : Int) : NumBox (w.alloc (.cells #[.int .i64 0, .int .i64 0] 32)) W w.heap.size (.pointer (some ⟨w.heap.size, 0, none⟩)) false K U :=
  ⟨rfl, hs, ⟨by simp [go_sem], by simp [go_sem], by simp [go_sem], by simp [go_sem]⟩⟩
end Go.Proofs.YtppkilblkobkhaaGreatDoor
