/- A quotient: xnum's Div, at the numbers that 'live' asks. -/
import Derived.Test.YtndoodiimjkojaaGreatDoorNumNamed
import Derived.Deep.RegionWith
import Derived.Deep.RegionHeld3
import Derived.Deep.DrawnRows
import Derived.Deep.DeepCutAuto
namespace Go.Proofs.YtndoodiimjkojaaGreatDoor
open Go.RowKit
attribute [local go_sem ↓] Go.wp_at_zero Go.wp_at_succ
/-- A new variable of two words, and it may be written. -/
structure PartsAt (w : World) (b : Nat) : Prop where
  c0 : w.cell? ⟨b, 0, none⟩ = some (.int .u64 0)
  c1 : w.cell? ⟨b, 1, none⟩ = some (.int .u64 0)
  o0 : w.frozen? ⟨b, 0, none⟩ = false
  o1 : w.frozen? ⟨b, 1, none⟩ = false
theorem PartsAt.below {w w' : World} {b : Nat} (h : PartsAt w b) (hb : Below w.heap.size w w') : PartsAt w' b :=
  ⟨kept_cell hb h.c0, kept_cell hb h.c1, kept_open hb h.c0 h.o0, kept_open hb h.c1 h.o1⟩
theorem PartsAt.new {w w' : World} (hb : Below (w.alloc (.cells #[.int .u64 0, .int .u64 0] 33)).heap.size (w.alloc (.cells #[.int .u64 0, .int .u64 0] 33)) w') : PartsAt w' w.heap.size :=
  PartsAt.below ⟨by simp [go_sem], by simp [go_sem], by simp [go_sem], by simp [go_sem]⟩ hb
theorem PartsAt.newd {w w' : World} (hb : Below (w.alloc (.cells #[.int .u64 0, .int .u64 0] 33)).drew.heap.size (w.alloc (.cells #[.int .u64 0, .int .u64 0] 33)).drew w') : PartsAt w' w.heap.size :=
  PartsAt.below ⟨by simp [go_sem], by simp [go_sem], by simp [go_sem], by simp [go_sem]⟩ hb
theorem hold_below {w w' : World} {a b : Nat} {x y : Value} (h : w.cell? ⟨a, 1, none⟩ = some x ∧ w.cell? ⟨b, 1, none⟩ = some y) (hb : Below w.heap.size w w') : w'.cell? ⟨a, 1, none⟩ = some x ∧ w'.cell? ⟨b, 1, none⟩ = some y := ⟨kept_cell hb h.1, kept_cell hb h.2⟩
theorem hold_alloc {w : World} {a b : Nat} {x y : Value} (h : w.cell? ⟨a, 1, none⟩ = some x ∧ w.cell? ⟨b, 1, none⟩ = some y) (o : Obj) : (w.alloc o).cell? ⟨a, 1, none⟩ = some x ∧ (w.alloc o).cell? ⟨b, 1, none⟩ = some y := hold_below h ((Below.refl _ _).alloc (Nat.le_refl _) o)
theorem hold_allocd {w : World} {a b : Nat} {x y : Value} (h : w.cell? ⟨a, 1, none⟩ = some x ∧ w.cell? ⟨b, 1, none⟩ = some y) (o : Obj) : (w.alloc o).drew.cell? ⟨a, 1, none⟩ = some x ∧ (w.alloc o).drew.cell? ⟨b, 1, none⟩ = some y := hold_alloc h o
theorem hold_set2 {w : World} {a b c : Nat} {x y u v : Value} (h : w.cell? ⟨a, 1, none⟩ = some x ∧ w.cell? ⟨b, 1, none⟩ = some y) (h1 : c ≠ a) (h2 : c ≠ b) : ((w.setCell ⟨c, 0, none⟩ u).setCell ⟨c, 1, none⟩ v).cell? ⟨a, 1, none⟩ = some x ∧ ((w.setCell ⟨c, 0, none⟩ u).setCell ⟨c, 1, none⟩ v).cell? ⟨b, 1, none⟩ = some y := by
  obtain ⟨h3, h4⟩ := h
  constructor
  all_goals simp [go_sem, *]
theorem hold_setd {w : World} {a b c : Nat} {x y u v : Value} (h : w.cell? ⟨a, 1, none⟩ = some x ∧ w.cell? ⟨b, 1, none⟩ = some y) (h1 : c ≠ a) (h2 : c ≠ b) : ((w.setCell ⟨c, 0, none⟩ u).setCell ⟨c, 1, none⟩ v).drew.cell? ⟨a, 1, none⟩ = some x ∧ ((w.setCell ⟨c, 0, none⟩ u).setCell ⟨c, 1, none⟩ v).drew.cell? ⟨b, 1, none⟩ = some y := hold_set2 h h1 h2
end Go.Proofs.YtndoodiimjkojaaGreatDoor
