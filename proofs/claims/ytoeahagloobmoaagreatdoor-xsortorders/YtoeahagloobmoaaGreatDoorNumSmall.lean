/- Numbers' kinds and signs: xnum's small functions. -/
import Derived.Test.YtoeahagloobmoaaGreatDoorBase
namespace Go.Proofs.YtoeahagloobmoaaGreatDoor
open Go.RowKit
/-- A number: its kind and its millionths. -/
abbrev numV (k v : Int) : Value := .agg #[.int .i64 k, .int .i64 v]
/-- The world behind a number's variable. -/
abbrev numW (w : World) (k v : Int) : World := w.alloc (.cells #[.int .i64 k, .int .i64 v] 37)
def infB (k : Int) : Bool := k == 2 || k == 3
def zeroB (k v : Int) : Bool := k == 0 && v == 0
def belowB (k v : Int) : Bool := k == 3 || (k == 0 && decide (v < 0))
def infK (b : Bool) : Int := if b then 3 else 2
def rankN (k : Int) : Int := if k = 2 then 1 else if k = 3 then -1 else 0
theorem Below.then {a b c : World} (h : Below a.heap.size a b) (k : Below b.heap.size b c) : Below a.heap.size a c := h.trans (k.mono h.size)
theorem ret_val {a b : Value} (h : a = b) : Ending.returned a = .returned b := by rw [h]
/-- A cell that lay there, and was not shut, behind a call. -/
theorem kept_cell {w w' : World} {p : Addr} {v : Value} (hb : Below w.heap.size w w') (h : w.cell? p = some v) : w'.cell? p = some v := by
  rw [hb.cell (block_lt_of_cell h)]; exact h
theorem kept_open {w w' : World} {p : Addr} {v : Value} (hb : Below w.heap.size w w') (hc : w.cell? p = some v) (h : w.frozen? p = false) : w'.frozen? p = false := by
  rw [hb.frozen (block_lt_of_cell hc)]; exact h
set_option maxHeartbeats 1000000 in
theorem isNaN_any (k v : Int) (w : World) :
    Calls Tryz.prog 51 #[.agg #[.int .i64 k, .int .i64 v]] w fun e w' => e = .returned (.bool (k == 1)) ∧ w' = w.alloc (.cells #[.int .i64 k, .int .i64 v] 37) := by
  go_enter Tryz.func51, Tryz.ntmps51
  go_wp2
  go_ret
  exact ⟨rfl, rfl⟩
set_option maxHeartbeats 1000000 in
theorem isInfinite_any (k v : Int) (w : World) :
    Calls Tryz.prog 69 #[.agg #[.int .i64 k, .int .i64 v]] w fun e w' => e = .returned (.bool (infB k)) ∧ w' = w.alloc (.cells #[.int .i64 k, .int .i64 v] 37) := by
  go_enter Tryz.func69, Tryz.ntmps69
  go_wp2
  all_goals
    go_ret
    exact ⟨ret_bool (by simp [infB, *]), by simp [*]⟩
theorem wrap_neg (v : Int) (h1 : -9223372036854775808 ≤ v) (h2 : v < 0) : IntKind.u64.wrap (-IntKind.u64.wrap v) = -v := by
  rw [IntKind.wrap_u64, IntKind.wrap_u64]; omega
/-- The number of a sign and a size. -/
def signK (b : Bool) (n : Nat) : Int := if 1000000000000000000 < n then infK b else 0
def signN (b : Bool) (n : Nat) : Int := if 1000000000000000000 < n then 0 else if b then -(n : Int) else n
end Go.Proofs.YtoeahagloobmoaaGreatDoor
