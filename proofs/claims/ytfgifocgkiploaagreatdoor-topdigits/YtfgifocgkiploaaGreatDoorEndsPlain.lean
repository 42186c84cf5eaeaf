/- Line ends, byte by byte: plain lemmas. -/
import Derived.Test.YtfgifocgkiploaaGreatDoorLines
namespace Go.Proofs.YtfgifocgkiploaaGreatDoor
open Go.RowKit
theorem prefix_index {old : List UInt8} {c : UInt8} {t : List UInt8} (h : old.isPrefixOf (c :: t) = true) : Lib.index (c :: t) old = ((0 : Nat) : Int) := by
  unfold Lib.index; rw [if_pos h]; rfl
theorem replaceK_miss (old new : List UInt8) (k : Nat) (c : UInt8) (t : List UInt8) (h : old.isPrefixOf (c :: t) = false) :
    Lib.replaceK old new k (c :: t) = c :: Lib.replaceK old new k t := by
  cases k with
  | zero => rfl
  | succ k =>
    have hc : Lib.index (c :: t) old = if Lib.index t old == -1 then -1 else Lib.index t old + 1 := by
      rw [Lib.index, if_neg (by rw [h]; decide)]
    by_cases hm : Lib.index t old = -1
    · rw [Lib.replaceK, hc, hm, Lib.replaceK, hm]; rfl
    · have hg := Lib.index_ge t old
      obtain ⟨i, hi⟩ : ∃ i : Nat, Lib.index t old = i := ⟨(Lib.index t old).toNat, by omega⟩
      have hc' : Lib.index (c :: t) old = ((i + 1 : Nat) : Int) := by
        rw [hc, if_neg (by simpa using hm), hi]; omega
      rw [Lib.replaceK_hit old new k _ _ hc', Lib.replaceK_hit old new k _ _ hi]
      have e : i + 1 + old.length = (i + old.length) + 1 := by omega
      rw [e]
      rfl
theorem count_cons_miss (old : List UInt8) (ho : old ≠ []) (c : UInt8) (t : List UInt8) (h : old.isPrefixOf (c :: t) = false) : Lib.count (c :: t) old = Lib.count t old := by
  have hc : Lib.index (c :: t) old = if Lib.index t old == -1 then -1 else Lib.index t old + 1 := by
    rw [Lib.index, if_neg (by rw [h]; decide)]
  by_cases hm : Lib.index t old = -1
  · rw [Lib.count_miss hm, Lib.count_miss (by rw [hc, hm]; rfl)]
  · have hg := Lib.index_ge t old
    obtain ⟨i, hi⟩ : ∃ i : Nat, Lib.index t old = i := ⟨(Lib.index t old).toNat, by omega⟩
    have hc' : Lib.index (c :: t) old = ((i + 1 : Nat) : Int) := by
      rw [hc, if_neg (by simpa using hm), hi]; omega
    rw [Lib.count_hit ho hc', Lib.count_hit ho hi]
    have e : i + 1 + old.length = (i + old.length) + 1 := by omega
    rw [e]
    rfl
theorem count_cons_hit (old : List UInt8) (ho : old ≠ []) (t : List UInt8) : Lib.count (old ++ t) old = 1 + Lib.count t old := by
  have h : Lib.index (old ++ t) old = ((0 : Nat) : Int) := by
    cases old with
    | nil => exact absurd rfl ho
    | cons a l => exact prefix_index (List.isPrefixOf_iff_prefix.2 ⟨t, rfl⟩)
  rw [Lib.count_hit ho h]
  simp
theorem replaceK_pre (old new : List UInt8) (ho : old ≠ []) (k : Nat) (t : List UInt8) : Lib.replaceK old new (k + 1) (old ++ t) = new ++ Lib.replaceK old new k t := by
  have h : Lib.index (old ++ t) old = ((0 : Nat) : Int) := by
    cases old with
    | nil => exact absurd rfl ho
    | cons a l => exact prefix_index (List.isPrefixOf_iff_prefix.2 ⟨t, rfl⟩)
  rw [Lib.replaceK_hit old new k _ _ h]
  simp
theorem replaceAll_eq (s old new : List UInt8) (h : (old == new) = false) : Lib.replaceAll s old new = Lib.replaceK old new (Lib.count s old) s := by
  unfold Lib.replaceAll Lib.replace
  rw [if_neg (by rw [h]; decide)]
  congr 1
/-- Pairs of 13 and 10 become 10. -/
def pairs : List UInt8 → List UInt8
  | [] => []
  | [c] => [c]
  | c :: d :: t => if c = 13 ∧ d = 10 then 10 :: pairs t else c :: pairs (d :: t)
theorem pairs_eq : ∀ (n : Nat) (l : List UInt8), l.length ≤ n → Lib.replaceAll l [13, 10] [10] = pairs l
  | _, [], _ => by decide +kernel
  | _, [c], _ => by
    rw [replaceAll_eq _ _ _ (by decide), count_cons_miss _ (by decide) _ _ (by simp [List.isPrefixOf]), replaceK_miss _ _ _ _ _ (by simp [List.isPrefixOf])]
    rfl
  | 0, c :: d :: t, h => by simp at h
  | n + 1, c :: d :: t, h => by
    rw [replaceAll_eq _ _ _ (by decide), pairs]
    by_cases hc : c = 13 ∧ d = 10
    · obtain ⟨rfl, rfl⟩ := hc
      rw [if_pos ⟨rfl, rfl⟩, ← pairs_eq n t (by simp at h; omega), replaceAll_eq _ _ _ (by decide)]
      have e : (13 :: 10 :: t : List UInt8) = [13, 10] ++ t := rfl
      rw [e, count_cons_hit _ (by decide), Nat.add_comm, replaceK_pre _ _ (by decide)]
      rfl
    · have hp : ([13, 10] : List UInt8).isPrefixOf (c :: d :: t) = false := by
        simp only [List.isPrefixOf, Bool.and_true]
        by_cases h1 : c = 13
        · by_cases h2 : d = 10
          · exact absurd ⟨h1, h2⟩ hc
          · have : ((10 : UInt8) == d) = false := by simpa using fun h => h2 h.symm
            rw [this, Bool.and_false]
        · have : ((13 : UInt8) == c) = false := by simpa using fun h => h1 h.symm
          rw [this, Bool.false_and]
      rw [if_neg hc, count_cons_miss _ (by decide) _ _ hp, replaceK_miss _ _ _ _ _ hp, ← replaceAll_eq _ _ _ (by decide), pairs_eq n (d :: t) (by simp at h ⊢; omega)]
def single (c : UInt8) : UInt8 := if c = 13 then 10 else c
theorem singles_eq (l : List UInt8) : Lib.replaceAll l [13] [10] = l.map single := by
  induction l with
  | nil => decide +kernel
  | cons c t ih =>
    rw [replaceAll_eq _ _ _ (by decide)] at ih ⊢
    by_cases hc : c = 13
    · subst hc
      have e : (13 :: t : List UInt8) = [13] ++ t := rfl
      rw [e, count_cons_hit _ (by decide), Nat.add_comm, replaceK_pre _ _ (by decide), ih]
      rfl
    · have hp : ([13] : List UInt8).isPrefixOf (c :: t) = false := by
        simp only [List.isPrefixOf, Bool.and_true]
        simpa using fun h => hc h.symm
      rw [count_cons_miss _ (by decide) _ _ hp, replaceK_miss _ _ _ _ _ hp, ih]
      simp [single, hc]
/-- Line ends, byte by byte. -/
def endsR : List UInt8 → List UInt8
  | [] => []
  | [c] => [single c]
  | c :: d :: t => if c = 13 ∧ d = 10 then endsR (d :: t) else single c :: endsR (d :: t)
theorem endsR_hit (t : List UInt8) : endsR (13 :: 10 :: t) = 10 :: endsR t := by
  rw [endsR, if_pos ⟨rfl, rfl⟩]
  cases t with
  | nil => rfl
  | cons a u => rw [endsR, if_neg (fun h => absurd h.1 (by decide))]; rfl
theorem endsL_eq : ∀ (n : Nat) (l : List UInt8), l.length ≤ n → endsL l = endsR l := by
  have key : ∀ (n : Nat) (l : List UInt8), l.length ≤ n → (pairs l).map single = endsR l := by
    intro n
    induction n with
    | zero => intro l h; cases l <;> simp at h; rfl
    | succ n ih =>
      intro l h
      match l, h with
      | [], _ => rfl
      | [c], _ => rfl
      | c :: d :: t, h =>
        by_cases hc : c = 13 ∧ d = 10
        · obtain ⟨rfl, rfl⟩ := hc
          rw [endsR_hit, pairs, if_pos ⟨rfl, rfl⟩, ← ih t (by simp at h; omega)]
          rfl
        · rw [endsR, if_neg hc, pairs, if_neg hc, ← ih (d :: t) (by simp at h ⊢; omega)]
          rfl
  intro n l h
  unfold endsL
  rw [pairs_eq n l h, singles_eq, key n l h]
theorem endsR_plain : ∀ l : List UInt8, (∀ c ∈ l, c ≠ 13) → endsR l = l
  | [], _ => rfl
  | [c], h => by simp [endsR, single, h c (by simp)]
  | c :: d :: t, h => by
    have hc : c ≠ 13 := h c (by simp)
    rw [endsR, if_neg (fun x => hc x.1), endsR_plain (d :: t) (fun x hx => h x (by simp at hx ⊢; exact .inr hx))]
    simp [single, hc]
theorem endsR_no : ∀ l : List UInt8, ∀ c ∈ endsR l, c ≠ 13
  | [], c, h => by simp [endsR] at h
  | [d], c, h => by
    simp [endsR, single] at h
    subst h
    split
    · decide
    · assumption
  | d :: e :: t, c, h => by
    rw [endsR] at h
    split at h
    · exact endsR_no (e :: t) c h
    · rcases List.mem_cons.1 h with rfl | h
      · unfold single; split
        · decide
        · assumption
      · exact endsR_no (e :: t) c h
theorem endsR_cons (c : UInt8) (t : List UInt8) (hc : c ≠ 13) : endsR (c :: t) = c :: endsR t := by
  cases t with
  | nil => simp [endsR, single, hc]
  | cons d u => rw [endsR, if_neg (fun h => hc h.1)]; simp [single, hc]
theorem endsR_app : ∀ (a b : List UInt8), (∀ c ∈ a, c ≠ 13) → endsR (a ++ b) = a ++ endsR b
  | [], _, _ => rfl
  | c :: a, b, h => by
    rw [List.cons_append, endsR_cons c _ (h c (by simp)), endsR_app a b (fun x hx => h x (by simp [hx]))]
    rfl
end Go.Proofs.YtfgifocgkiploaaGreatDoor
