/- Whether a token may stand by itself: the reference's RightToken. -/
import Derived.Test.YtkklapoceknbcaaGreatDoorXmlRfA
import Derived.Test.YtkklapoceknbcaaGreatDoorXmlWrB
namespace Go.Proofs.YtkklapoceknbcaaGreatDoor
open Go.RowKit
theorem text_empty : textB ⟨#[]⟩ = true := by
  rw [textB_txt]
  exact ⟨[], (fun _ h => by cases h), rfl⟩
theorem okB_text {t : BTok} (h : textB t.text = false) : okB t = false := by
  have hx : t.text.toList.isEmpty = false := by
    cases he : t.text.toList.isEmpty with
    | false => rfl
    | true =>
      have := empty_T he
      rw [this, T_nil, text_empty] at h
      cases h
  unfold okB comB insB
  rw [h, hx]
  simp
theorem suf_last (s : ByteArray) (h : 0 < s.size) : Lib.hasSuffix s.data.toList [45] = ((s[s.size - 1].toNat : Int) == 45) := by
  have hne : s.data.toList ≠ [] := fun h0 => by
    have : s.data.toList.length = s.size := rfl
    rw [h0] at this
    simp at this
    omega
  have hl : s.data.toList.getLast? = some (s[s.size - 1]'(by omega)) := by
    rw [List.getLast?_eq_getElem?]
    exact List.getElem?_eq_getElem (l := s.data.toList) (i := s.data.toList.length - 1) (by have : s.data.toList.length = s.size := rfl; omega)
  generalize s[s.size - 1]'(by omega) = b at *
  by_cases hb : b = 45
  · subst hb
    obtain ⟨p, hp⟩ := List.getLast?_eq_some_iff.1 hl
    rw [hp]
    show [45].isSuffixOf (p ++ [45]) = _
    rw [List.isSuffixOf_iff_suffix.2 ⟨p, rfl⟩]
    rfl
  · have h1 : Lib.hasSuffix s.data.toList [45] = false := by
      cases hs : Lib.hasSuffix s.data.toList [45] with
      | false => rfl
      | true =>
        obtain ⟨p, hp⟩ := List.isSuffixOf_iff_suffix.1 hs
        rw [← hp, List.getLast?_append] at hl
        simp at hl
        exact absurd hl.symm hb
    rw [h1]
    symm
    apply beq_eq_false_iff_ne.2
    intro e
    exact hb (UInt8.toNat_inj.1 (by show b.toNat = 45; omega))
theorem trim_first (x : ByteArray) (ht : textB x = true) (h : 0 < x.size) : ((Lib.trimLeftF blankN x).toList == x.toList) = !blankB (x[0].toNat : Int) := by
  obtain ⟨l, hl, rfl⟩ := textB_T ht
  cases l with
  | nil => exact absurd h (by decide)
  | cons c l =>
    obtain ⟨b, m, hr, _⟩ := runeB_first (charR_ok (hl c (by simp)))
    have h0 : (T (c :: l))[0] = b := by
      have e : (T (c :: l)).data.toList = b :: (m ++ tx l) := by rw [T_data, tx_cons, hr]; rfl
      have : (T (c :: l)).data.toList[0]? = some b := by rw [e]; rfl
      rw [List.getElem?_eq_getElem (l := (T (c :: l)).data.toList) h] at this
      exact Option.some.inj this
    rw [h0, trim_T hl]
    have hbl : blankB (b.toNat : Int) = blankC c := by
      rw [blankC_eq]
      by_cases h128 : c < 128
      · have : runeB c = [UInt8.ofNat c] := runeB_one h128
        rw [this] at hr
        cases hr
        rw [asc_toNat h128]
      · have h1 : 128 ≤ b.toNat := runeB_high (charR_ok (hl c (by simp))) (by omega) b (by rw [hr]; simp)
        unfold blankC
        have e1 : ∀ n, n < 128 → (b.toNat == n) = false := fun n hn => beq_eq_false_iff_ne.2 (by omega)
        have e2 : ∀ n, n < 128 → (c == n) = false := fun n hn => beq_eq_false_iff_ne.2 (by omega)
        rw [e1 9 (by omega), e1 10 (by omega), e1 13 (by omega), e1 32 (by omega), e2 9 (by omega), e2 10 (by omega), e2 13 (by omega), e2 32 (by omega)]
    rw [hbl]
    cases hb : blankC c
    · rw [List.dropWhile_cons, if_neg (by rw [hb]; decide)]
      simp
    · rw [List.dropWhile_cons, if_pos hb]
      apply beq_eq_false_iff_ne.2
      intro e
      rw [T_toList, T_toList] at e
      have h2 := tx_inj (fun x hx => hl x (List.mem_cons_of_mem _ ((List.dropWhile_sublist _).subset hx))) hl e
      have h3 := congrArg List.length h2
      have h4 : (l.dropWhile blankC).length ≤ l.length := (List.dropWhile_sublist _).length_le
      rw [List.length_cons] at h3
      omega
end Go.Proofs.YtkklapoceknbcaaGreatDoor
