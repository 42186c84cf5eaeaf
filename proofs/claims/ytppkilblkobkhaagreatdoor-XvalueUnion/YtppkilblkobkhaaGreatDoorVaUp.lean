/- Numbers that are sorted, and compacted: rising, each once. -/
import Derived.Test.YtppkilblkobkhaaGreatDoorVaAd
import Derived.Lib.SlicesCompact
namespace Go.Proofs.YtppkilblkobkhaaGreatDoor
open Go.RowKit
theorem compact_set (d : Array Int) (hs : ∀ i j, i < j → j < d.size → d[i]! ≤ d[j]!) : ∀ m, m ≤ d.size → (Lib.compactUpTo d m).Pairwise (· < ·) ∧ (∀ x, x ∈ Lib.compactUpTo d m ↔ ∃ j, j < m ∧ d[j]! = x)
  | 0, _ => ⟨by simp [Lib.compactUpTo], fun x => by simp [Lib.compactUpTo]⟩
  | m + 1, hm => by
    obtain ⟨h1, h2⟩ := compact_set d hs m (by omega)
    rw [Lib.compactUpTo_succ]
    cases hk : Lib.keeps d m
    · simp only [Bool.false_eq_true, if_false, List.append_nil]
      refine ⟨h1, fun x => ?_⟩
      rw [h2]
      have hk' : ¬ (m = 0 ∨ d[m]! ≠ d[m - 1]!) := of_decide_eq_false hk
      constructor
      · rintro ⟨j, hj, e⟩
        exact ⟨j, by omega, e⟩
      · rintro ⟨j, hj, e⟩
        by_cases hjm : j = m
        · subst hjm
          have h3 : ¬ j = 0 := fun h => hk' (.inl h)
          have h4 : d[j]! = d[j - 1]! := Decidable.byContradiction fun h => hk' (.inr h)
          exact ⟨j - 1, by omega, by rw [← e, h4]⟩
        · exact ⟨j, by omega, e⟩
    · simp only [if_true]
      refine ⟨?_, fun x => ?_⟩
      · rw [List.pairwise_append]
        refine ⟨h1, List.pairwise_singleton _ _, fun a ha b hb => ?_⟩
        rw [List.mem_singleton] at hb
        subst hb
        obtain ⟨j, hj, e⟩ := (h2 a).1 ha
        have hk' : m = 0 ∨ d[m]! ≠ d[m - 1]! := of_decide_eq_true hk
        have h3 : m ≠ 0 := by omega
        have h4 := hk'.resolve_left h3
        have h5 := hs (m - 1) m (by omega) (by omega)
        have h6 : d[j]! ≤ d[m - 1]! := by
          by_cases h7 : j = m - 1
          · rw [h7]; exact Int.le_refl _
          · exact hs j (m - 1) (by omega) (by omega)
        omega
      · rw [List.mem_append, h2, List.mem_singleton]
        constructor
        · rintro (⟨j, hj, e⟩ | e)
          · exact ⟨j, by omega, e⟩
          · exact ⟨m, by omega, e.symm⟩
        · rintro ⟨j, hj, e⟩
          by_cases hjm : j = m
          · subst hjm; exact .inr e.symm
          · exact .inl ⟨j, by omega, e⟩
theorem sorted_le (l : List Int) : (l.mergeSort fun x y => decide (x ≤ y)).Pairwise (· ≤ ·) := by
  have h := List.pairwise_mergeSort (le := fun x y : Int => decide (x ≤ y)) (by intro a b c h1 h2; simp at *; omega) (by intro a b; simp; omega) l
  exact h.imp (fun h => by simpa using h)
theorem union_set (l : List Int) : SetL (Lib.compact (l.mergeSort fun x y => decide (x ≤ y))) (fun x => x ∈ l) := by
  have hp := sorted_le l
  have hm := List.mergeSort_perm l (fun x y => decide (x ≤ y))
  generalize (l.mergeSort fun x y => decide (x ≤ y)) = s at *
  have hg : ∀ i, (h : i < s.length) → s.toArray[i]! = s[i] := fun i h => by simp [h]
  obtain ⟨h1, h2⟩ := compact_set s.toArray (fun i j hij hj => by
    have hj' : j < s.length := by simpa using hj
    rw [hg i (by omega), hg j hj']
    exact List.pairwise_iff_getElem.1 hp i j (by omega) hj' hij) s.length (by simp)
  refine ⟨h1, fun x => ?_⟩
  show _ ↔ x ∈ l
  rw [← hm.mem_iff]
  refine (h2 x).trans ⟨?_, fun hx => ?_⟩
  · rintro ⟨j, hj, e⟩
    rw [hg j hj] at e
    rw [← e]
    exact List.getElem_mem hj
  · obtain ⟨j, hj, e⟩ := List.getElem_of_mem hx
    exact ⟨j, hj, by rw [hg j hj, e]⟩
theorem compact_len (l : List Int) : (Lib.compact l).length ≤ l.length := by
  unfold Lib.compact Lib.compactUpTo
  rw [List.length_map]
  have := List.length_filter_le (Lib.keeps l.toArray) (List.range l.length)
  rw [List.length_range] at this
  exact this
end Go.Proofs.YtppkilblkobkhaaGreatDoor
