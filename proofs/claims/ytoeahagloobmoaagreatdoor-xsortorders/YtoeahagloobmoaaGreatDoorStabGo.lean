/- The library's stable sort of a row of numbers by a function handed in. -/
import Derived.Test.YtoeahagloobmoaaGreatDoorStabSym
import Derived.Test.YtoeahagloobmoaaGreatDoorSortLet
namespace Go.Proofs.YtoeahagloobmoaaGreatDoor
open Go.RowKit
/-- A row of numbers in a block, each place open. -/
def RowAt (q n : Nat) (r : Rw) (w : World) : Prop := ∀ i, i < n → w.cell? ⟨q, i, none⟩ = some (.int .i64 (r i : Int)) ∧ w.frozen? ⟨q, i, none⟩ = false
theorem RowAt.below {q n : Nat} {r : Rw} {w w' : World} (h : RowAt q n r w) (hb : Below w.heap.size w w') : RowAt q n r w' := fun i hi => ⟨kept_cell hb (h i hi).1, kept_open hb (h i hi).1 (h i hi).2⟩
theorem RowAt.drew {q n : Nat} {r : Rw} {w : World} (h : RowAt q n r w) : RowAt q n r w.drew := fun i hi => h i hi
theorem RowAt.put {q n : Nat} {r : Rw} {w : World} (h : RowAt q n r w) (i j : Nat) (hi : i < n) (hj : j < n) (hij : i ≠ j) : RowAt q n (swp r i j) ((w.setCell ⟨q, i, none⟩ (.int .i64 (r j : Int))).setCell ⟨q, j, none⟩ (.int .i64 (r i : Int))) := by
  intro k hk
  have h1 := h i hi
  have h2 := h j hj
  have h3 := h k hk
  unfold swp
  by_cases c1 : k = i
  · subst c1
    rw [if_pos rfl]
    have hn : j ≠ k := fun e => hij e.symm
    simp [go_sem, *]
  · rw [if_neg c1]
    by_cases c2 : k = j
    · subst c2
      rw [if_pos rfl]
      simp [go_sem, *]
    · rw [if_neg c2]
      have n1 : i ≠ k := fun e => c1 e.symm
      have n2 : j ≠ k := fun e => c2 e.symm
      simp [go_sem, *]
theorem add_wrap (x i X : Nat) (h : X = x + i) (hb : X ≤ 1000000) : IntKind.i64.wrap ((x : Int) + (i : Int)) = (X : Int) ∧ wrap64 ((x : Int) + (i : Int)) = (X : Int) := by
  subst h
  have : wrap64 ((x : Int) + (i : Int)) = ((x + i : Nat) : Int) := by
    rw [wrap_same _ (by omega) (by omega)]
    omega
  exact ⟨(i64_is _).trans this, this⟩
theorem nat_lt {a b : Nat} (h : a < b) : (a : Int) < (b : Int) := by omega
theorem nat_nlt {a b : Nat} (h : ¬ a < b) : ¬ (a : Int) < (b : Int) := by omega
set_option maxRecDepth 100000 in
set_option maxHeartbeats 4000000 in
theorem swapRange_any (q n x y k : Nat) (fv : Value) (r : Rw) (w : World) (hr : RowAt q n r w) (hxy : x + k ≤ y) (hyn : y + k ≤ n) (hn : n ≤ 1000000) (K : World → Prop) (hK : K w) (hKs : ∀ w i v, K w → i < n → K (w.setCell ⟨q, i, none⟩ v)) (hKd : ∀ w, K w → K w.drew) :
    Calls Tryz.prog 67 #[.slice (some ⟨q, 0, none⟩) n n, .int .i64 (x : Int), .int .i64 (y : Int), .int .i64 (k : Int), fv] w fun e w' => e = .returned (.tuple #[]) ∧ RowAt q n (swr r x y k) w' ∧ K w' := by
  go_enter Tryz.func67, Tryz.ntmps67
  go_wp2_with fail
  go_loopw [10] (fun v wr => ∃ i : Nat, i ≤ k ∧ v = .int .i64 (i : Int) ∧ RowAt q n (swr r x y i) wr ∧ K wr) (fun v _ => k - vNat v)
  case atStart => exact ⟨0, Nat.zero_le _, rfl, by rw [swr_none]; exact hr, hK⟩
  case round =>
    obtain ⟨i, hi, rfl, hR, hKr⟩ := hrel
    clear hr hK
    by_cases hlt : i < k
    · have hlt' : (i : Int) < (k : Int) := by omega
      have hx := hR (x + i) (by omega)
      have hy := hR (y + i) (by omega)
      have HN := hide (show RowAt q n (swr r x y (i + 1)) _ by rw [← swr_more r x y i (by omega)]; exact hR.put (x + i) (y + i) (by omega) (by omega) (by omega))
      have HK := hide (hKd _ (hKs _ (y + i) (.int .i64 (swr r x y i (x + i) : Int)) (hKs wr (x + i) (.int .i64 (swr r x y i (y + i) : Int)) hKr (by omega)) (by omega)))
      obtain ⟨hx1, hx2⟩ := hx
      obtain ⟨hy1, hy2⟩ := hy
      obtain ⟨X, hX⟩ : ∃ X, X = x + i := ⟨_, rfl⟩
      obtain ⟨Y, hY⟩ : ∃ Y, Y = y + i := ⟨_, rfl⟩
      rw [← hX] at hx1 hx2 HN HK
      rw [← hY] at hy1 hy2 HN HK
      have hXn : X < n := by rw [hX]; omega
      have hYn : Y < n := by rw [hY]; omega
      have nXY : Y ≠ X := by omega
      have nYX : X ≠ Y := by omega
      have hi1n : i + 1 ≤ 1000000 := by omega
      obtain ⟨eX, eX'⟩ := add_wrap x i X hX (Nat.le_trans (Nat.le_of_lt hXn) hn)
      obtain ⟨eY, eY'⟩ := add_wrap y i Y hY (Nat.le_trans (Nat.le_of_lt hYn) hn)
      have bX := nat_lt hXn
      have bY := nat_lt hYn
      have eI := (add_wrap i 1 (i + 1) rfl hi1n).2
      rw [show ((1 : Nat) : Int) = 1 from rfl] at eI
      have HI := hide (show i < k from hlt)
      have HM := hide (show k - (((i + 1 : Nat) : Int)).toNat < k - ((i : Nat) : Int).toNat by rw [Int.toNat_natCast, Int.toNat_natCast]; exact Nat.sub_lt_sub_left hlt (Nat.lt_succ_self i))
      generalize swr r x y i X = VX at *
      generalize swr r x y i Y = VY at *
      generalize hi1 : i + 1 = i1 at *
      have Hi1 := hide hi1
      clear hi1
      generalize (VX : Int) = UX at *
      generalize (VY : Int) = UY at *
      generalize (x : Int) = A at *
      generalize (y : Int) = B at *
      generalize (i : Int) = I at *
      generalize hI1 : (i1 : Int) = I1 at *
      have HI1 := hide hI1
      clear hI1
      generalize (k : Int) = KK at *
      clear hX hY hR hKr hKs hKd
      have HEI := hide eI
      clear eI
      go_wp2_with fail
      go_region
      go_wp2_with fail
      refine ⟨⟨i1, ?_, ?_, (unhide HN).drew, unhide HK⟩, ?_⟩
      · have := unhide HI
        have := unhide Hi1
        omega
      · rw [unhide HEI, unhide HI1]
      · rw [unhide HEI]
        exact unhide HM
    · have hlt' := nat_nlt hlt
      have : i = k := by omega
      subst this
      go_wp2_with fail
      go_end0
      exact ⟨rfl, hR, hKr⟩
/-- What a comparison's function must tell, in every world of a kind. -/
def CmpAt (K : World → Prop) (lt : Nat → Nat → Prop) (N f : Nat) (cap : Array Value) : Prop := ∀ w x y, K w → x < N → y < N → Calls Tryz.prog f (#[.int .i64 (x : Int), .int .i64 (y : Int)] ++ cap) w fun e w' => ∃ c : Int, e = .returned (.int .i64 c) ∧ (c < 0 ↔ lt x y) ∧ Below w.heap.size w w'
end Go.Proofs.YtoeahagloobmoaaGreatDoor
