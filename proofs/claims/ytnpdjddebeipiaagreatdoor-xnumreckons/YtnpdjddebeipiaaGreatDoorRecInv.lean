/- Five numbers reckoned and kept in one statement, in any order: what holds behind each step. -/
import Derived.Test.YtnpdjddebeipiaaGreatDoorNumInv
namespace Go.Proofs.YtnpdjddebeipiaaGreatDoor
open Go.RowKit
def upd {T : Type} (f : Nat → T) (i : Nat) (x : T) (j : Nat) : T := if j = i then x else f j
theorem upd_at {T : Type} (f : Nat → T) (i : Nat) (x : T) : upd f i x i = x := if_pos rfl
theorem upd_off {T : Type} (f : Nat → T) {i j : Nat} (x : T) (h : j ≠ i) : upd f i x j = f j := if_neg h
def fiveL (f : Nat → Bool) : Array Bool := #[f 0, f 1, f 2, f 3, f 4, f 5, f 6, f 7, f 8, f 9, f 10, f 11, f 12, f 13, f 14, f 15, f 16, f 17, f 18, f 19, f 20, f 21, f 22, f 23, f 24]
def fiveT (vs : Nat → Value) : List (Nat × Value) := [(10, vs 0), (11, vs 1), (12, vs 2), (13, vs 3), (14, vs 4), (15, vs 5), (16, vs 6), (17, vs 7), (18, vs 8), (19, vs 9), (20, vs 10), (21, vs 11), (22, vs 12), (23, vs 13), (24, vs 14), (5, vs 15), (6, vs 16), (7, vs 17), (8, vs 18), (9, vs 19)]
theorem fiveL_upd (f : Nat → Bool) (i : Nat) (hi : i < 25) : (fiveL f).setIfInBounds i true = fiveL (upd f i true) := by
  have hcs : i = 0 ∨ i = 1 ∨ i = 2 ∨ i = 3 ∨ i = 4 ∨ i = 5 ∨ i = 6 ∨ i = 7 ∨ i = 8 ∨ i = 9 ∨ i = 10 ∨ i = 11 ∨ i = 12 ∨ i = 13 ∨ i = 14 ∨ i = 15 ∨ i = 16 ∨ i = 17 ∨ i = 18 ∨ i = 19 ∨ i = 20 ∨ i = 21 ∨ i = 22 ∨ i = 23 ∨ i = 24 := by omega
  clear hi
  rcases hcs with rfl | rfl | rfl | rfl | rfl | rfl | rfl | rfl | rfl | rfl | rfl | rfl | rfl | rfl | rfl | rfl | rfl | rfl | rfl | rfl | rfl | rfl | rfl | rfl | rfl
  all_goals simp [fiveL, upd]
/-- What holds behind each step: what was loaded, what was told, which variables are new, which are written. -/
structure FiveInv (A0 : Act) (X : World) (val : Nat → Value) (K U : Nat → Int) (L : Array Bool) (a : Act) (w : World) (f : Nat → Bool) (vs : Nat → Value) (bs : Nat → Nat) : Prop where
  hL : L = fiveL f
  ha : a = setT A0 (fiveT vs)
  hb : Below X.heap.size X w
  hv : ∀ i, i < 15 → f i = true → vs i = val i
  hq : ∀ k, k < 5 → f (15 + k) = true → NumBox w X (bs k) (vs (15 + k)) (f (20 + k)) (K k) (U k)
  hn : ∀ j k, j < 5 → k < 5 → j ≠ k → f (15 + j) = true → f (15 + k) = true → bs j ≠ bs k
  hs : ∀ k, k < 5 → f (20 + k) = true → f (15 + k) = true
section
variable {A0 : Act} {X : World} {val : Nat → Value} {K U : Nat → Int} {L L' : Array Bool} {a a' : Act} {w w' : World} {f : Nat → Bool} {vs : Nat → Value} {bs : Nat → Nat}
theorem FiveInv.got (H : FiveInv A0 X val K U L a w f vs bs) (i : Nat) (hi : i < 15) (hw : Below w.heap.size w w') (hL : L' = fiveL (upd f i true)) (ha : a' = setT A0 (fiveT (upd vs i (val i)))) : FiveInv A0 X val K U L' a' w' (upd f i true) (upd vs i (val i)) bs := by
  refine ⟨hL, ha, Below.then H.hb hw, fun j hj hf => ?_, fun k hk hf => ?_, fun j k hj hk hn h1 h2 => ?_, fun k hk hf => ?_⟩
  · by_cases c : j = i
    · subst c
      rw [upd_at]
    · rw [upd_off _ _ c] at hf ⊢
      exact H.hv j hj hf
  · rw [upd_off _ _ (by omega)] at hf ⊢
    rw [upd_off _ _ (by omega)]
    exact (H.hq k hk hf).below hw
  · rw [upd_off _ _ (by omega)] at h1 h2
    exact H.hn j k hj hk hn h1 h2
  · rw [upd_off _ _ (by omega)] at hf ⊢
    exact H.hs k hk hf
theorem FiveInv.made (H : FiveInv A0 X val K U L a w f vs bs) (k : Nat) (hk : k < 5) (h0 : f (15 + k) = false) (hL : L' = fiveL (upd f (15 + k) true)) (ha : a' = setT A0 (fiveT (upd vs (15 + k) (.pointer (some ⟨w.heap.size, 0, none⟩))))) : FiveInv A0 X val K U L' a' (w.alloc (.cells #[.int .i64 0, .int .i64 0] 24)) (upd f (15 + k) true) (upd vs (15 + k) (.pointer (some ⟨w.heap.size, 0, none⟩))) (upd bs k w.heap.size) := by
  have hz : f (20 + k) = false := by
    cases h : f (20 + k) with
    | false => rfl
    | true => exact absurd (H.hs k hk h) (by rw [h0]; decide)
  have hal : Below w.heap.size w (w.alloc (.cells #[.int .i64 0, .int .i64 0] 24)) := (Below.refl _ _).alloc (Nat.le_refl _) _
  refine ⟨hL, ha, H.hb.alloc H.hb.size _, fun j hj hf => ?_, fun j hj hf => ?_, fun i j hi hj hn h1 h2 => ?_, fun j hj hf => ?_⟩
  · rw [upd_off _ _ (by omega)] at hf ⊢
    exact H.hv j hj hf
  · by_cases c : j = k
    · subst c
      rw [upd_at, upd_at, upd_off _ _ (by omega), hz]
      exact NumBox.new H.hb.size _ _
    · rw [upd_off _ _ (by omega)] at hf ⊢
      rw [upd_off _ _ (by omega), upd_off _ _ (by omega)]
      exact (H.hq j hj hf).below hal
  · by_cases c : i = k
    · subst c
      rw [upd_at, upd_off _ _ (fun e => hn e.symm)]
      rw [upd_off _ _ (by omega)] at h2
      exact Nat.ne_of_gt (H.hq j hj h2).lt
    · rw [upd_off _ _ (by omega)] at h1
      rw [upd_off _ _ c]
      by_cases d : j = k
      · subst d
        rw [upd_at]
        exact Nat.ne_of_lt (H.hq i hi h1).lt
      · rw [upd_off _ _ (by omega)] at h2
        rw [upd_off _ _ d]
        exact H.hn i j hi hj hn h1 h2
  · rw [upd_off _ _ (by omega)] at hf
    by_cases c : j = k
    · subst c
      rw [upd_at]
    · rw [upd_off _ _ (by omega)]
      exact H.hs j hj hf
theorem FiveInv.kept (H : FiveInv A0 X val K U L a w f vs bs) (k : Nat) (hk : k < 5) (h0 : f (15 + k) = true) (hL : L' = fiveL (upd f (20 + k) true)) (ha : a' = setT A0 (fiveT vs)) : FiveInv A0 X val K U L' a' (putN w (bs k) (K k) (U k)) (upd f (20 + k) true) vs bs := by
  have B := H.hq k hk h0
  refine ⟨hL, ha, putN_below H.hb B.ge _ _, fun j hj hf => ?_, fun j hj hf => ?_, fun i j hi hj hn h1 h2 => ?_, fun j hj hf => ?_⟩
  · rw [upd_off _ _ (by omega)] at hf
    exact H.hv j hj hf
  · rw [upd_off _ _ (by omega)] at hf
    by_cases c : j = k
    · subst c
      rw [upd_at]
      exact B.put
    · rw [upd_off _ _ (by omega)]
      exact (H.hq j hj hf).keep (H.hn j k hj hk c hf h0) _ _
  · rw [upd_off _ _ (by omega)] at h1 h2
    exact H.hn i j hi hj hn h1 h2
  · rw [upd_off _ _ (by omega)]
    by_cases c : j = k
    · subst c
      exact h0
    · rw [upd_off _ _ (by omega)] at hf
      exact H.hs j hj hf
end
end Go.Proofs.YtnpdjddebeipiaaGreatDoor
