/- Numbers' kinds and signs: xnum's small functions. -/
import Derived.Test.YtppkilblkobkhaaGreatDoorBase
namespace Go.Proofs.YtppkilblkobkhaaGreatDoor
open Go.RowKit
def infB (k : Int) : Bool := k == 2 || k == 3
def belowB (k v : Int) : Bool := k == 3 || (k == 0 && decide (v < 0))
def infK (b : Bool) : Int := if b then 3 else 2
theorem Below.then {a b c : World} (h : Below a.heap.size a b) (k : Below b.heap.size b c) : Below a.heap.size a c := h.trans (k.mono h.size)
/-- A cell that lay there, and was not shut, behind a call. -/
theorem kept_cell {w w' : World} {p : Addr} {v : Value} (hb : Below w.heap.size w w') (h : w.cell? p = some v) : w'.cell? p = some v := by
  rw [hb.cell (block_lt_of_cell h)]; exact h
theorem kept_open {w w' : World} {p : Addr} {v : Value} (hb : Below w.heap.size w w') (hc : w.cell? p = some v) (h : w.frozen? p = false) : w'.frozen? p = false := by
  rw [hb.frozen (block_lt_of_cell hc)]; exact h
set_option maxHeartbeats 1000000 in
theorem isNaN_any (k v : Int) (w : World) :
    Calls Tryz.prog 102 #[.agg #[.int .i64 k, .int .i64 v]] w fun e w' => e = .returned (.bool (k == 1)) ∧ w' = w.alloc (.cells #[.int .i64 k, .int .i64 v] 32) := by
  go_enter Tryz.func102, Tryz.ntmps102
  go_wp2
  go_ret
  exact ⟨rfl, rfl⟩
set_option maxHeartbeats 1000000 in
theorem isInfinite_any (k v : Int) (w : World) :
    Calls Tryz.prog 104 #[.agg #[.int .i64 k, .int .i64 v]] w fun e w' => e = .returned (.bool (infB k)) ∧ w' = w.alloc (.cells #[.int .i64 k, .int .i64 v] 32) := by
  go_enter Tryz.func104, Tryz.ntmps104
  go_wp2
  all_goals
    go_ret
    exact ⟨ret_bool (by simp [infB, *]), by simp [*]⟩
set_option maxHeartbeats 1000000 in
theorem isBelow_any (k v : Int) (w : World) :
    Calls Tryz.prog 105 #[.agg #[.int .i64 k, .int .i64 v]] w fun e w' => e = .returned (.bool (belowB k v)) ∧ w' = w.alloc (.cells #[.int .i64 k, .int .i64 v] 32) := by
  go_enter Tryz.func105, Tryz.ntmps105
  go_wp2
  all_goals
    go_ret
    exact ⟨ret_bool (by simp [belowB, *]), by simp [*]⟩
set_option maxHeartbeats 1000000 in
theorem notANumber_any (w : World) :
    Calls Tryz.prog 103 #[] w fun e w' => e = .returned (.agg #[.int .i64 1, .int .i64 0]) ∧ w' = w.alloc (.cells #[.int .i64 1, .int .i64 0] 32) := by
  go_enter Tryz.func103, Tryz.ntmps103
  go_wp2
  refine bodyPost_ret (v := .agg #[.int .i64 1, .int .i64 0]) (by simp [results, Tryz.results103, go_sem]) rfl ⟨rfl, rfl⟩
set_option maxHeartbeats 1000000 in
theorem infinite_any (b : Bool) (w : World) :
    Calls Tryz.prog 99 #[.bool b] w fun e w' => e = .returned (.agg #[.int .i64 (infK b), .int .i64 0]) ∧ w' = w.alloc (.cells #[.int .i64 (infK b), .int .i64 0] 32) := by
  cases b
  · go_enter Tryz.func99, Tryz.ntmps99
    go_wp2
    refine bodyPost_ret (v := .agg #[.int .i64 2, .int .i64 0]) (by simp [results, Tryz.results99, go_sem]) rfl ⟨rfl, rfl⟩
  · go_enter Tryz.func99, Tryz.ntmps99
    go_wp2
    refine bodyPost_ret (v := .agg #[.int .i64 3, .int .i64 0]) (by simp [results, Tryz.results99, go_sem]) rfl ⟨rfl, rfl⟩
theorem wrap_neg (v : Int) (h1 : -9223372036854775808 ≤ v) (h2 : v < 0) : IntKind.u64.wrap (-IntKind.u64.wrap v) = -v := by
  rw [IntKind.wrap_u64, IntKind.wrap_u64]; omega
set_option maxHeartbeats 1000000 in
theorem sizeOf_any (v : Int) (w : World) (h1 : -9223372036854775808 ≤ v) (h2 : v ≤ 9223372036854775807) :
    Calls Tryz.prog 107 #[.int .i64 v] w fun e w' => e = .returned (.int .u64 (v.natAbs : Int)) ∧ w' = w := by
  by_cases h : v < 0
  · have hw := wrap_neg v h1 h
    go_enter Tryz.func107, Tryz.ntmps107
    go_wp2
    go_ret
    exact ⟨ret_int (by omega), rfl⟩
  · go_enter Tryz.func107, Tryz.ntmps107
    go_wp2
    go_ret
    exact ⟨ret_int (by omega), rfl⟩
/-- The number of a sign and a size. -/
def signK (b : Bool) (n : Nat) : Int := if 1000000000000000000 < n then infK b else 0
def signN (b : Bool) (n : Nat) : Int := if 1000000000000000000 < n then 0 else if b then -(n : Int) else n
set_option maxHeartbeats 1000000 in
theorem signed_any (b : Bool) (n : Nat) (w : World) (hn : n < 18446744073709551616) :
    Calls Tryz.prog 106 #[.bool b, .int .u64 (n : Int)] w fun e w' => e = .returned (.agg #[.int .i64 (signK b n), .int .i64 (signN b n)]) ∧ Below w.heap.size w w' := by
  unfold signK signN
  by_cases h : 1000000000000000000 < n
  · have h' : (1000000000000000000 : Int) < (n : Int) := by omega
    simp only [if_pos h]
    go_enter Tryz.func106, Tryz.ntmps106
    go_wp2_with (go_at_call 99; refine (infinite_any b _).mono ?_; rintro e w' ⟨rfl, rfl⟩)
    refine bodyPost_ret (v := .agg #[.int .i64 (infK b), .int .i64 0]) (by simp [results, Tryz.results106, go_sem]) rfl ⟨rfl, ((Below.refl _ _).alloc (Nat.le_refl _) _).alloc (by simp) _⟩
  · have h' : (n : Int) ≤ 1000000000000000000 := by omega
    simp only [if_neg h]
    cases b
    · go_enter Tryz.func106, Tryz.ntmps106
      go_wp2
      refine bodyPost_ret (v := .agg #[.int .i64 0, .int .i64 (n : Int)]) (by simp [results, Tryz.results106, go_sem]) rfl ⟨rfl, (Below.refl _ _).alloc (Nat.le_refl _) _⟩
    · go_enter Tryz.func106, Tryz.ntmps106
      go_wp2
      refine bodyPost_ret (v := .agg #[.int .i64 0, .int .i64 (-(n : Int))]) (by simp [results, Tryz.results106, go_sem]) rfl ⟨rfl, (Below.refl _ _).alloc (Nat.le_refl _) _⟩
end Go.Proofs.YtppkilblkobkhaaGreatDoor
