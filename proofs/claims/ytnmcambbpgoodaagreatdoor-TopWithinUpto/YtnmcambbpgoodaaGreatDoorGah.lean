/- Several texts, laid as one. -/
import Derived.Test.YtnmcambbpgoodaaGreatDoorGac
import Derived.Test.YtnmcambbpgoodaaGreatDoorGaa
import Derived.Laws.Externs
import Derived.ScopeJumps
import Derived.WalkMore
import Derived.Deep.RegionHeld3
import Derived.Deep.DrawnRows
import Derived.Deep.DeepCutAuto
import Derived.BigQuiet
import Derived.StillTail
/- Numbers' kinds and signs: xnum's small functions. -/
namespace Go.Proofs.YtnmcambbpgoodaaGreatDoor
open Go.RowKit
def infK (b : Bool) : Int := if b then 3 else 2
/-- A cell that lay there, and was not shut, behind a call. -/
theorem kept_cell {w w' : World} {p : Addr} {v : Value} (hb : Below w.heap.size w w') (h : w.cell? p = some v) : w'.cell? p = some v := by
  rw [hb.cell (block_lt_of_cell h)]; exact h
theorem kept_open {w w' : World} {p : Addr} {v : Value} (hb : Below w.heap.size w w') (hc : w.cell? p = some v) (h : w.frozen? p = false) : w'.frozen? p = false := by
  rw [hb.frozen (block_lt_of_cell hc)]; exact h
set_option maxHeartbeats 1000000 in
theorem notANumber_any (w : World) :
    Calls Tryz.prog 111 #[] w fun e w' => e = .returned (.agg #[.int .i64 1, .int .i64 0]) ∧ w' = w.alloc (.cells #[.int .i64 1, .int .i64 0] 29) := by
  go_enter Tryz.func111, Tryz.ntmps111
  go_wp2
  refine bodyPost_ret (v := .agg #[.int .i64 1, .int .i64 0]) (by simp [results, Tryz.results111, go_sem]) rfl ⟨rfl, rfl⟩
set_option maxHeartbeats 1000000 in
theorem infinite_any (b : Bool) (w : World) :
    Calls Tryz.prog 116 #[.bool b] w fun e w' => e = .returned (.agg #[.int .i64 (infK b), .int .i64 0]) ∧ w' = w.alloc (.cells #[.int .i64 (infK b), .int .i64 0] 29) := by
  cases b
  · go_enter Tryz.func116, Tryz.ntmps116
    go_wp2
    refine bodyPost_ret (v := .agg #[.int .i64 2, .int .i64 0]) (by simp [results, Tryz.results116, go_sem]) rfl ⟨rfl, rfl⟩
  · go_enter Tryz.func116, Tryz.ntmps116
    go_wp2
    refine bodyPost_ret (v := .agg #[.int .i64 3, .int .i64 0]) (by simp [results, Tryz.results116, go_sem]) rfl ⟨rfl, rfl⟩
/-- The number of a sign and a size. -/
def signK (b : Bool) (n : Nat) : Int := if 1000000000000000000 < n then infK b else 0
def signN (b : Bool) (n : Nat) : Int := if 1000000000000000000 < n then 0 else if b then -(n : Int) else n
set_option maxHeartbeats 1000000 in
theorem signed_any (b : Bool) (n : Nat) (w : World) (hn : n < 18446744073709551616) :
    Calls Tryz.prog 112 #[.bool b, .int .u64 (n : Int)] w fun e w' => e = .returned (.agg #[.int .i64 (signK b n), .int .i64 (signN b n)]) ∧ Below w.heap.size w w' := by
  unfold signK signN
  by_cases h : 1000000000000000000 < n
  · have h' : (1000000000000000000 : Int) < (n : Int) := by omega
    simp only [if_pos h]
    go_enter Tryz.func112, Tryz.ntmps112
    go_wp2_with (go_at_call 116; refine (infinite_any b _).mono ?_; rintro e w' ⟨rfl, rfl⟩)
    refine bodyPost_ret (v := .agg #[.int .i64 (infK b), .int .i64 0]) (by simp [results, Tryz.results112, go_sem]) rfl ⟨rfl, ((Below.refl _ _).alloc (Nat.le_refl _) _).alloc (by simp) _⟩
  · have h' : (n : Int) ≤ 1000000000000000000 := by omega
    simp only [if_neg h]
    cases b
    · go_enter Tryz.func112, Tryz.ntmps112
      go_wp2
      refine bodyPost_ret (v := .agg #[.int .i64 0, .int .i64 (n : Int)]) (by simp [results, Tryz.results112, go_sem]) rfl ⟨rfl, (Below.refl _ _).alloc (Nat.le_refl _) _⟩
    · go_enter Tryz.func112, Tryz.ntmps112
      go_wp2
      refine bodyPost_ret (v := .agg #[.int .i64 0, .int .i64 (-(n : Int))]) (by simp [results, Tryz.results112, go_sem]) rfl ⟨rfl, (Below.refl _ _).alloc (Nat.le_refl _) _⟩
end Go.Proofs.YtnmcambbpgoodaaGreatDoor
/- Sums, products and quotients of 128 bits: xnum's addWide, product and quotient. -/
namespace Go.Proofs.YtnmcambbpgoodaaGreatDoor
open Go.RowKit
/-- A variable of 128 bits holds a number, and may be written. -/
structure WideAt (w : World) (k n : Nat) : Prop where
  hi : w.cell? ⟨k, 0, none⟩ = some (.int .u64 ((n : Int) / 18446744073709551616))
  lo : w.cell? ⟨k, 1, none⟩ = some (.int .u64 ((n : Int) % 18446744073709551616))
  o0 : w.frozen? ⟨k, 0, none⟩ = false
  o1 : w.frozen? ⟨k, 1, none⟩ = false
theorem WideAt.below {w w' : World} {k n : Nat} (h : WideAt w k n) (hb : Below w.heap.size w w') : WideAt w' k n :=
  ⟨kept_cell hb h.hi, kept_cell hb h.lo, kept_open hb h.hi h.o0, kept_open hb h.lo h.o1⟩
/-- .. when it is written. -/
def putW (w : World) (k : Nat) (x y : Int) : World := (w.setCell ⟨k, 0, none⟩ (.int .u64 x)).setCell ⟨k, 1, none⟩ (.int .u64 y)
theorem WideAt.put {w : World} {k n : Nat} (h : WideAt w k n) (m : Nat) : WideAt (putW w k ((m : Int) / 18446744073709551616) ((m : Int) % 18446744073709551616)) k m := by
  obtain ⟨h1, h2, h3, h4⟩ := h
  unfold putW
  refine ⟨?_, ?_, ?_, ?_⟩
  all_goals simp [go_sem, *]
end Go.Proofs.YtnmcambbpgoodaaGreatDoor
/- The world under one name; a number's variable. -/
namespace Go.Proofs.YtnmcambbpgoodaaGreatDoor
open Go.RowKit
/-- A variable of a number holds it, and may be written. -/
structure NumAt (w : World) (b : Nat) (k v : Int) : Prop where
  kind : w.cell? ⟨b, 0, none⟩ = some (.int .i64 k)
  val : w.cell? ⟨b, 1, none⟩ = some (.int .i64 v)
  o0 : w.frozen? ⟨b, 0, none⟩ = false
  o1 : w.frozen? ⟨b, 1, none⟩ = false
theorem NumAt.below {w w' : World} {b : Nat} {k v : Int} (h : NumAt w b k v) (hb : Below w.heap.size w w') : NumAt w' b k v :=
  ⟨kept_cell hb h.kind, kept_cell hb h.val, kept_open hb h.kind h.o0, kept_open hb h.val h.o1⟩
end Go.Proofs.YtnmcambbpgoodaaGreatDoor
/- A statement that leaves its order open, by what holds behind each of its steps. -/
namespace Go.Proofs.YtnmcambbpgoodaaGreatDoor
open Go.RowKit
/-- A new number's variable: where it lies, and what it holds. -/
structure NumBox (w W : World) (b : Nat) (q : Value) (z : Bool) (K U : Int) : Prop where
  ptr : q = .pointer (some ⟨b, 0, none⟩)
  ge : W.heap.size ≤ b
  at_ : NumAt w b (if z then K else 0) (if z then U else 0)
theorem NumBox.below {w w' W : World} {b : Nat} {q : Value} {z : Bool} {K U : Int} (h : NumBox w W b q z K U) (hb : Below w.heap.size w w') : NumBox w' W b q z K U := ⟨h.ptr, h.ge, h.at_.below hb⟩
theorem NumBox.lt {w W : World} {b : Nat} {q : Value} {z : Bool} {K U : Int} (h : NumBox w W b q z K U) : b < w.heap.size := block_lt_of_cell h.at_.kind
/-- .. when it is written. -/
def putN (w : World) (b : Nat) (k v : Int) : World := (w.setCell ⟨b, 0, none⟩ (.int .i64 k)).setCell ⟨b, 1, none⟩ (.int .i64 v)
theorem NumAt.put {w : World} {b : Nat} {k v : Int} (h : NumAt w b k v) (k' v' : Int) : NumAt (putN w b k' v') b k' v' := by
  obtain ⟨h1, h2, h3, h4⟩ := h
  unfold putN
  refine ⟨?_, ?_, ?_, ?_⟩
  all_goals simp [go_sem, *]
theorem putN_below {w w' : World} {B b : Nat} (h : Below B w w') (hk : B ≤ b) (k v : Int) : Below B w (putN w' b k v) := (h.setCell hk _).setCell hk _
theorem NumBox.put {w W : World} {b : Nat} {q : Value} {z : Bool} {K U : Int} (h : NumBox w W b q z K U) : NumBox (putN w b K U) W b q true K U := ⟨h.ptr, h.ge, h.at_.put K U⟩
theorem NumBox.new {w W : World} (hs : W.heap.size ≤ w.heap.size) (K U : Int) : NumBox (w.alloc (.cells #[.int .i64 0, .int .i64 0] 29)) W w.heap.size (.pointer (some ⟨w.heap.size, 0, none⟩)) false K U :=
  ⟨rfl, hs, ⟨by simp [go_sem], by simp [go_sem], by simp [go_sem], by simp [go_sem]⟩⟩
end Go.Proofs.YtnmcambbpgoodaaGreatDoor
/- A statement that leaves its order open, whose steps read and call: in the order of the text, over a class of worlds. -/
namespace Go.Proofs.YtnmcambbpgoodaaGreatDoor
open Go.RowKit
theorem wp_region_cls {P : Program} {id : Nat} {Q : Exit → Act → World → Prop} {a : Act} {w : World} {l : List Oper} (C : World → Prop) (hm : P.follows .mixedOrders = true) (hB : Region.lexB .any l.toArray = true) (hC : C w.drew)
    (h : wpQuiet P l.toArray C (fun a' => ∀ w', C w' → Q .normal a' w') l a) : (Code.region id l.toArray true).wp P Q a w :=
  wp_region_quiet (C := C) hm hB hC (by simpa using h)
/-- Worlds in which a number's variable, another's value and a third number's stand. -/
structure Cls5 (X : World) (p q s : Nat) (r v u : Int) (w' : World) : Prop where
  bel : Below X.heap.size X w'
  r0 : w'.cell? ⟨p, 0, none⟩ = some (.int .i64 0)
  r1 : w'.cell? ⟨p, 1, none⟩ = some (.int .i64 r)
  a0 : w'.cell? ⟨q, 0, none⟩ = some (.int .i64 0)
  a1 : w'.cell? ⟨q, 1, none⟩ = some (.int .i64 v)
  b1 : w'.cell? ⟨s, 1, none⟩ = some (.int .i64 u)
theorem Cls5.below {X w w' : World} {p q s : Nat} {r v u : Int} (h : Cls5 X p q s r v u w) (hb : Below w.heap.size w w') : Cls5 X p q s r v u w' :=
  ⟨Below.then h.bel hb, kept_cell hb h.r0, kept_cell hb h.r1, kept_cell hb h.a0, kept_cell hb h.a1, kept_cell hb h.b1⟩
end Go.Proofs.YtnmcambbpgoodaaGreatDoor
/- A statement that leaves its order open, whose steps read and call, and whose last steps (its stores) come behind all others, in one order. -/
namespace Go.Proofs.YtnmcambbpgoodaaGreatDoor
open Go.RowKit
section
variable {P : Program} {Q : Exit → Act → World → Prop}
end
end Go.Proofs.YtnmcambbpgoodaaGreatDoor
