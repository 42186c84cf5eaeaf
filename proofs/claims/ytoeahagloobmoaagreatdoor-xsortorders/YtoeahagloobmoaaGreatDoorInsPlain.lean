/- Rows that are put in one by one, in plain terms. -/
import Derived.Test.YtoeahagloobmoaaGreatDoorPermPlain
import Derived.Test.YtoeahagloobmoaaGreatDoorStabEnd
namespace Go.Proofs.YtoeahagloobmoaaGreatDoor
theorem lex_not {lt : Nat → Nat → Prop} (hw : Weak lt) {x y : Nat} (h : LexL lt x y) : ¬ lt y x := by
  intro h2
  rcases h with h | ⟨h, _⟩
  · exact hw.irr x (hw.trans x y x h h2)
  · exact h h2
theorem ins_sorted {lt : Nat → Nat → Prop} (hw : Weak lt) (os : List Nat) (i k : Nat) (hs : os.Pairwise (LexL lt)) (hlow : ∀ x ∈ os, x < i) (h1 : ∀ x ∈ os.drop k, lt i x) (h2 : k = 0 ∨ ∃ x, os[k - 1]? = some x ∧ ¬ lt i x) :
    (os.take k ++ i :: os.drop k).Pairwise (LexL lt) := by
  have hs' := hs
  rw [← List.take_append_drop k os, List.pairwise_append] at hs'
  obtain ⟨p1, p2, p3⟩ := hs'
  rw [List.pairwise_append]
  refine ⟨p1, List.pairwise_cons.2 ⟨fun x hx => .inl (h1 x hx), p2⟩, ?_⟩
  intro a ha b hb
  rcases List.mem_cons.1 hb with rfl | hb
  · refine .inr ⟨?_, hlow a (List.mem_of_mem_take ha)⟩
    rcases h2 with rfl | ⟨x, hx, hnx⟩
    · simp at ha
    · obtain ⟨j, hj⟩ := List.mem_iff_getElem?.1 ha
      rw [List.getElem?_take] at hj
      by_cases c : j < k
      · rw [if_pos c] at hj
        by_cases e : j = k - 1
        · rw [e, hx] at hj
          rw [← Option.some.inj hj]
          exact hnx
        · obtain ⟨q1, rfl⟩ := List.getElem?_eq_some_iff.1 hj
          obtain ⟨q2, rfl⟩ := List.getElem?_eq_some_iff.1 hx
          have := List.pairwise_iff_getElem.1 hs j (k - 1) q1 q2 (by omega)
          exact hw.neg _ _ _ hnx (lex_not hw this)
      · rw [if_neg c] at hj
        cases hj
  · exact p3 a ha b hb
theorem ins_perm (os : List Nat) (i k : Nat) (h : os.Perm (List.range i)) : (os.take k ++ i :: os.drop k).Perm (List.range (i + 1)) := by
  have h1 : (os.take k ++ i :: os.drop k).Perm (i :: (os.take k ++ os.drop k)) := List.perm_middle
  rw [List.take_append_drop] at h1
  refine h1.trans ((h.cons i).trans ?_)
  rw [List.range_succ]
  exact (List.perm_append_singleton i (List.range i)).symm
/-- Two ways of sorting, one answer. -/
theorem same_order {lt : Nat → Nat → Prop} (hw : Weak lt) {n : Nat} {r : Rw} {os : List Nat} (hF : (∀ i, i < n → r i < n) ∧ (∀ i j, i < n → j < n → r i = r j → i = j)) (hS : Srt (LexL lt) 0 n r) (hp : os.Perm (List.range n)) (hs : os.Pairwise (LexL lt)) : (List.range n).map r = os := by
  refine List.Perm.eq_of_pairwise (le := LexL lt) (fun a b _ _ h1 h2 => ((lex_tot hw).asym h1 h2).elim) ?_ hs ((perm_places hF.1 hF.2).trans hp.symm)
  rw [List.pairwise_map]
  refine List.Pairwise.imp_of_mem ?_ (List.pairwise_lt_range (n := n))
  intro a b _ hb hab
  exact hS a b (Nat.zero_le _) hab (List.mem_range.1 hb)
end Go.Proofs.YtoeahagloobmoaaGreatDoor
