/- Numbers' kinds and signs: xnum's small functions. -/
import Derived.Test.YtnpdjddebeipiaaGreatDoorBase
namespace Go.Proofs.YtnpdjddebeipiaaGreatDoor
open Go.RowKit
def infB (k : Int) : Bool := k == 2 || k == 3
def zeroB (k v : Int) : Bool := k == 0 && v == 0
def belowB (k v : Int) : Bool := k == 3 || (k == 0 && decide (v < 0))
def infK (b : Bool) : Int := if b then 3 else 2
theorem Below.then {a b c : World} (h : Below a.heap.size a b) (k : Below b.heap.size b c) : Below a.heap.size a c := h.trans (k.mono h.size)
theorem ret_val {a b : Value} (h : a = b) : Ending.returned a = .returned b := by rw [h]
/-- A cell that lay there, and was not shut, behind a call. -/
theorem kept_cell {w w' : World} {p : Addr} {v : Value} (hb : Below w.heap.size w w') (h : w.cell? p = some v) : w'.cell? p = some v := by
  rw [hb.cell (block_lt_of_cell h)]; exact h
theorem kept_open {w w' : World} {p : Addr} {v : Value} (hb : Below w.heap.size w w') (hc : w.cell? p = some v) (h : w.frozen? p = false) : w'.frozen? p = false := by
  rw [hb.frozen (block_lt_of_cell hc)]; exact h
set_option maxHeartbeats 1000000 in
theorem isNaN_any (k v : Int) (w : World) :
    Calls Tryz.prog 18 #[.agg #[.int .i64 k, .int .i64 v]] w fun e w' => e = .returned (.bool (k == 1)) ∧ w' = w.alloc (.cells #[.int .i64 k, .int .i64 v] 24) := by
  go_enter Tryz.func18, Tryz.ntmps18
  go_wp2
  go_ret
  exact ⟨rfl, rfl⟩
set_option maxHeartbeats 1000000 in
theorem isInfinite_any (k v : Int) (w : World) :
    Calls Tryz.prog 20 #[.agg #[.int .i64 k, .int .i64 v]] w fun e w' => e = .returned (.bool (infB k)) ∧ w' = w.alloc (.cells #[.int .i64 k, .int .i64 v] 24) := by
  go_enter Tryz.func20, Tryz.ntmps20
  go_wp2
  all_goals
    go_ret
    exact ⟨ret_bool (by simp [infB, *]), by simp [*]⟩
set_option maxHeartbeats 1000000 in
theorem isBelow_any (k v : Int) (w : World) :
    Calls Tryz.prog 22 #[.agg #[.int .i64 k, .int .i64 v]] w fun e w' => e = .returned (.bool (belowB k v)) ∧ w' = w.alloc (.cells #[.int .i64 k, .int .i64 v] 24) := by
  go_enter Tryz.func22, Tryz.ntmps22
  go_wp2
  all_goals
    go_ret
    exact ⟨ret_bool (by simp [belowB, *]), by simp [*]⟩
set_option maxHeartbeats 1000000 in
theorem isZero_any (k v : Int) (w : World) :
    Calls Tryz.prog 25 #[.agg #[.int .i64 k, .int .i64 v]] w fun e w' => e = .returned (.bool (zeroB k v)) ∧ w' = w.alloc (.cells #[.int .i64 k, .int .i64 v] 24) := by
  go_enter Tryz.func25, Tryz.ntmps25
  go_wp2
  all_goals
    go_ret
    exact ⟨ret_bool (by simp [zeroB, *]), by simp [*]⟩
set_option maxHeartbeats 1000000 in
theorem notANumber_any (w : World) :
    Calls Tryz.prog 19 #[] w fun e w' => e = .returned (.agg #[.int .i64 1, .int .i64 0]) ∧ w' = w.alloc (.cells #[.int .i64 1, .int .i64 0] 24) := by
  go_enter Tryz.func19, Tryz.ntmps19
  go_wp2
  refine bodyPost_ret (v := .agg #[.int .i64 1, .int .i64 0]) (by simp [results, Tryz.results19, go_sem]) rfl ⟨rfl, rfl⟩
set_option maxHeartbeats 1000000 in
theorem infinite_any (b : Bool) (w : World) :
    Calls Tryz.prog 21 #[.bool b] w fun e w' => e = .returned (.agg #[.int .i64 (infK b), .int .i64 0]) ∧ w' = w.alloc (.cells #[.int .i64 (infK b), .int .i64 0] 24) := by
  cases b
  · go_enter Tryz.func21, Tryz.ntmps21
    go_wp2
    refine bodyPost_ret (v := .agg #[.int .i64 2, .int .i64 0]) (by simp [results, Tryz.results21, go_sem]) rfl ⟨rfl, rfl⟩
  · go_enter Tryz.func21, Tryz.ntmps21
    go_wp2
    refine bodyPost_ret (v := .agg #[.int .i64 3, .int .i64 0]) (by simp [results, Tryz.results21, go_sem]) rfl ⟨rfl, rfl⟩
theorem wrap_neg (v : Int) (h1 : -9223372036854775808 ≤ v) (h2 : v < 0) : IntKind.u64.wrap (-IntKind.u64.wrap v) = -v := by
  rw [IntKind.wrap_u64, IntKind.wrap_u64]; omega
set_option maxHeartbeats 1000000 in
theorem sizeOf_any (v : Int) (w : World) (h1 : -9223372036854775808 ≤ v) (h2 : v ≤ 9223372036854775807) :
    Calls Tryz.prog 24 #[.int .i64 v] w fun e w' => e = .returned (.int .u64 (v.natAbs : Int)) ∧ w' = w := by
  by_cases h : v < 0
  · have hw := wrap_neg v h1 h
    go_enter Tryz.func24, Tryz.ntmps24
    go_wp2
    go_ret
    exact ⟨ret_int (by omega), rfl⟩
  · go_enter Tryz.func24, Tryz.ntmps24
    go_wp2
    go_ret
    exact ⟨ret_int (by omega), rfl⟩
/-- The number of a sign and a size. -/
def signK (b : Bool) (n : Nat) : Int := if 1000000000000000000 < n then infK b else 0
def signN (b : Bool) (n : Nat) : Int := if 1000000000000000000 < n then 0 else if b then -(n : Int) else n
set_option maxHeartbeats 1000000 in
theorem signed_any (b : Bool) (n : Nat) (w : World) (hn : n < 18446744073709551616) :
    Calls Tryz.prog 23 #[.bool b, .int .u64 (n : Int)] w fun e w' => e = .returned (.agg #[.int .i64 (signK b n), .int .i64 (signN b n)]) ∧ Below w.heap.size w w' := by
  unfold signK signN
  by_cases h : 1000000000000000000 < n
  · have h' : (1000000000000000000 : Int) < (n : Int) := by omega
    simp only [if_pos h]
    go_enter Tryz.func23, Tryz.ntmps23
    go_wp2_with (go_at_call 21; refine (infinite_any b _).mono ?_; rintro e w' ⟨rfl, rfl⟩)
    refine bodyPost_ret (v := .agg #[.int .i64 (infK b), .int .i64 0]) (by simp [results, Tryz.results23, go_sem]) rfl ⟨rfl, ((Below.refl _ _).alloc (Nat.le_refl _) _).alloc (by simp) _⟩
  · have h' : (n : Int) ≤ 1000000000000000000 := by omega
    simp only [if_neg h]
    cases b
    · go_enter Tryz.func23, Tryz.ntmps23
      go_wp2
      refine bodyPost_ret (v := .agg #[.int .i64 0, .int .i64 (n : Int)]) (by simp [results, Tryz.results23, go_sem]) rfl ⟨rfl, (Below.refl _ _).alloc (Nat.le_refl _) _⟩
    · go_enter Tryz.func23, Tryz.ntmps23
      go_wp2
      refine bodyPost_ret (v := .agg #[.int .i64 0, .int .i64 (-(n : Int))]) (by simp [results, Tryz.results23, go_sem]) rfl ⟨rfl, (Below.refl _ _).alloc (Nat.le_refl _) _⟩
end Go.Proofs.YtnpdjddebeipiaaGreatDoor
