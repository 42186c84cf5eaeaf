/- A picture's parts, at live's picture: xnum's isTail, isRest, isWhole and groupOf. -/
import Derived.Test.YtfgifocgkiploaaGreatDoorNumSmall
import Derived.Test.YtfgifocgkiploaaGreatDoorShelf
namespace Go.Proofs.YtfgifocgkiploaaGreatDoor
open Go.RowKit
/-- The library's MaxLen holds an int. -/
def MaxLenIs (w : World) : Prop := ∃ m, w.cell? ⟨5, 0, none⟩ = some (.int .i64 m)
theorem MaxLenIs.below {w w' : World} (h : MaxLenIs w) (hb : Below w.heap.size w w') : MaxLenIs w' := by
  obtain ⟨m, hm⟩ := h
  exact ⟨m, kept_cell hb hm⟩
theorem ascii_of (l : List UInt8) (h : l.all (fun b => decide (b.toNat < 128)) = true) : ∀ (j : Nat) b, l[j]? = some b → b.toNat < 128 := by
  intro j b hj
  have := List.all_eq_true.1 h b (List.mem_of_getElem? hj)
  exact of_decide_eq_true this
end Go.Proofs.YtfgifocgkiploaaGreatDoor
