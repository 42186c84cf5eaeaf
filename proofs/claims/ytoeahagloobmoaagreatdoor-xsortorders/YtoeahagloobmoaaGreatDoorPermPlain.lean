/- Rows of texts that are sorted, in plain terms: two of the same texts are the same. -/
import Derived.Test.YtoeahagloobmoaaGreatDoorKeyPlain
namespace Go.Proofs.YtoeahagloobmoaaGreatDoor
theorem perm_places {n : Nat} {r : Nat → Nat} (h1 : ∀ i, i < n → r i < n) (h2 : ∀ i j, i < n → j < n → r i = r j → i = j) : ((List.range n).map r).Perm (List.range n) := by
  have hn : ((List.range n).map r).Nodup := by
    unfold List.Nodup
    rw [List.pairwise_map]
    refine List.Pairwise.imp_of_mem ?_ (List.pairwise_lt_range (n := n))
    intro a b ha hb hab e
    have := h2 a b (List.mem_range.1 ha) (List.mem_range.1 hb) e
    omega
  rw [List.perm_ext_iff_of_nodup hn List.nodup_range]
  intro a
  constructor
  · intro ha
    obtain ⟨i, hi, rfl⟩ := List.mem_map.1 ha
    exact List.mem_range.2 (h1 i (List.mem_range.1 hi))
  · intro ha
    refine Classical.byContradiction fun hna => ?_
    have hl := List.Nodup.length_le_of_subset (l₁ := a :: (List.range n).map r) (l₂ := List.range n) (List.nodup_cons.2 ⟨hna, hn⟩) (by
      intro x hx
      rcases List.mem_cons.1 hx with rfl | hx
      · exact ha
      · obtain ⟨i, hi, rfl⟩ := List.mem_map.1 hx
        exact List.mem_range.2 (h1 i (List.mem_range.1 hi)))
    simp at hl
    omega
theorem bytes_zero : ∀ (a b : List UInt8), Lib.compareBytes a b = 0 → a = b
  | [], [], _ => rfl
  | [], _ :: _, h => by simp [Lib.compareBytes] at h
  | _ :: _, [], h => by simp [Lib.compareBytes] at h
  | x :: a, y :: b, h => by
    simp only [Lib.compareBytes] at h
    by_cases h1 : x < y
    · simp [h1] at h
    · by_cases h2 : y < x
      · simp [h1, h2] at h
      · rw [if_neg h1, if_neg h2] at h
        have e : x = y := by
          apply UInt8.toNat_inj.1
          rw [UInt8.lt_iff_toNat_lt] at h1 h2
          omega
        rw [e, bytes_zero a b h]
theorem bytes_self : ∀ (a : List UInt8), Lib.compareBytes a a = 0
  | [] => rfl
  | x :: a => by
    have h : ¬ x < x := fun h => by rw [UInt8.lt_iff_toNat_lt] at h; omega
    simp only [Lib.compareBytes, if_neg h]
    exact bytes_self a
/-- Two rows of the same texts, one the other way round, both sorted, are the same. -/
theorem sorted_same (n : Nat) (ta : Nat → List UInt8) (x y : Nat → Nat) (x1 : ∀ i, i < n → x i < n) (x2 : ∀ i j, i < n → j < n → x i = x j → i = j) (y1 : ∀ i, i < n → y i < n) (y2 : ∀ i j, i < n → j < n → y i = y j → i = j)
    (sx : ∀ i j, i < j → j < n → Lib.compareBytes (ta (x i)) (ta (x j)) ≤ 0) (sy : ∀ i j, i < j → j < n → Lib.compareBytes (ta (n - 1 - y i)) (ta (n - 1 - y j)) ≤ 0) (i : Nat) (hi : i < n) : ta (x i) = ta (n - 1 - y i) := by
  have p1 : (((List.range n).map x).map ta).Perm ((List.range n).map ta) := (perm_places x1 x2).map ta
  have p2 : (((List.range n).map fun i => n - 1 - y i).map ta).Perm ((List.range n).map ta) :=
    (perm_places (r := fun i => n - 1 - y i) (fun i hi => by have := y1 i hi; show n - 1 - y i < n; omega) (fun i j hi hj e => by
      have e' : n - 1 - y i = n - 1 - y j := e
      have := y1 i hi
      have := y1 j hj
      exact y2 i j hi hj (by omega))).map ta
  have sorted : ∀ z : Nat → Nat, (∀ i j, i < j → j < n → Lib.compareBytes (ta (z i)) (ta (z j)) ≤ 0) → (((List.range n).map z).map ta).Pairwise (fun a b => Lib.compareBytes a b ≤ 0) := by
    intro z hz
    rw [List.pairwise_map, List.pairwise_map]
    refine List.Pairwise.imp_of_mem ?_ (List.pairwise_lt_range (n := n))
    intro a b _ hb hab
    exact hz a b hab (List.mem_range.1 hb)
  have e := List.Perm.eq_of_pairwise (le := fun a b => Lib.compareBytes a b ≤ 0) (fun a b _ _ h1 h2 => bytes_zero a b (by
    have g := good_bytes
    by_cases q : Lib.compareBytes a b < 0
    · have := (g.anti a b).1 q
      have h2' : Lib.compareBytes b a ≤ 0 := h2
      omega
    · have h1' : Lib.compareBytes a b ≤ 0 := h1
      omega)) (sorted x sx) (sorted (fun i => n - 1 - y i) sy) (p1.trans p2.symm)
  have e' := congrArg (fun l => l[i]?) e
  simpa [hi] using e'
end Go.Proofs.YtoeahagloobmoaaGreatDoor
