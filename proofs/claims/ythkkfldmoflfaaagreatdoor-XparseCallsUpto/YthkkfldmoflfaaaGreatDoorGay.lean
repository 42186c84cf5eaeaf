/- Several texts, laid as one. -/
import Derived.Test.YthkkfldmoflfaaaGreatDoorGax
import Derived.Laws.RangeAny
/- What is written is read: xnum's Parse at Text's texts. -/
namespace Go.Proofs.YthkkfldmoflfaaaGreatDoor
open Go.RowKit
theorem mk_size (l : List UInt8) : (⟨l.toArray⟩ : ByteArray).size = l.length := by simp [ByteArray.size]
theorem mk_list (l : List UInt8) : (⟨l.toArray⟩ : ByteArray).data.toList = l := by simp
theorem mk_append (l m : List UInt8) : (⟨l.toArray⟩ : ByteArray) ++ ⟨m.toArray⟩ = ⟨(l ++ m).toArray⟩ := by
  apply ByteArray.ext
  rw [ByteArray.data_append]
  simp
end Go.Proofs.YthkkfldmoflfaaaGreatDoor
/- A number's text with blanks around it. -/
namespace Go.Proofs.YthkkfldmoflfaaaGreatDoor
open Go.RowKit
theorem mk_get (l : List UInt8) (i : Nat) (h : i < (⟨l.toArray⟩ : ByteArray).size) : (⟨l.toArray⟩ : ByteArray)[i]'h = l[i]'(by rw [mk_size] at h; exact h) := by
  show l.toArray[i]'_ = _
  simp
end Go.Proofs.YthkkfldmoflfaaaGreatDoor
/- A text without blanks at its ends, byte by byte: what strings.TrimFunc leaves of any bytes. -/
namespace Go.Proofs.YthkkfldmoflfaaaGreatDoor
open Go.RowKit
def blankBN (b : UInt8) : Bool := blankP b.toNat
def trimLB (l : List UInt8) : List UInt8 := l.dropWhile blankBN
def trimRB (l : List UInt8) : List UInt8 := (l.reverse.dropWhile blankBN).reverse
def trimB (l : List UInt8) : List UInt8 := trimRB (trimLB l)
theorem blankP_high (x : Nat) (h : 128 ≤ x) : blankP x = false := by
  unfold blankP blankCN
  simp
  omega
theorem drop_while (p : UInt8 → Bool) (l : List UInt8) : l.drop (l.takeWhile p).length = l.dropWhile p := by
  induction l with
  | nil => rfl
  | cons c l ih =>
    by_cases h : p c = true
    · rw [List.takeWhile_cons_of_pos h, List.dropWhile_cons_of_pos h, List.length_cons, List.drop_succ_cons, ih]
    · rw [List.takeWhile_cons_of_neg h, List.dropWhile_cons_of_neg h]
      rfl
theorem drop_cons (s : ByteArray) (pos : Nat) (h : pos < s.size) : s.data.toList.drop pos = s[pos]'h :: s.data.toList.drop (pos + 1) := List.drop_eq_getElem_cons (show pos < s.data.toList.length from h)
theorem idx_from (s : ByteArray) : ∀ (f pos : Nat), s.size ≤ pos + f → pos ≤ s.size → Lib.idxFuncFrom blankP false s f pos = if pos + ((s.data.toList.drop pos).takeWhile blankBN).length < s.size then ((pos + ((s.data.toList.drop pos).takeWhile blankBN).length : Nat) : Int) else -1
  | 0, pos, h1, h2 => by
    rw [Lib.idxFuncFrom, if_neg (by omega)]
  | f + 1, pos, h1, h2 => by
    rw [Lib.idxFuncFrom]
    by_cases hp : pos < s.size
    · rw [if_pos hp, drop_cons s pos hp]
      by_cases ha : (s[pos]'hp).toNat < 128
      · rw [decode_ascii s pos hp ha]
        by_cases hb : blankBN (s[pos]'hp) = true
        · have hb' : ¬ blankP (s[pos]'hp).toNat = false := by unfold blankBN at hb; rw [hb]; decide
          simp only
          rw [if_neg hb', idx_from s f (pos + 1) (by omega) (by omega), List.takeWhile_cons_of_pos hb, List.length_cons]
          rw [show pos + 1 + ((s.data.toList.drop (pos + 1)).takeWhile blankBN).length = pos + (((s.data.toList.drop (pos + 1)).takeWhile blankBN).length + 1) by omega]
        · have hb' : blankP (s[pos]'hp).toNat = false := by unfold blankBN at hb; simpa using hb
          simp only
          rw [if_pos hb', List.takeWhile_cons_of_neg hb, List.length_nil, Nat.add_zero, if_pos hp]
      · have hd := (decode_high s pos hp (by omega)).1
        have hb : ¬ blankBN (s[pos]'hp) = true := by unfold blankBN; rw [blankP_high _ (by omega)]; decide
        rw [if_pos (blankP_high _ hd), List.takeWhile_cons_of_neg hb, List.length_nil, Nat.add_zero, if_pos hp]
    · rw [if_neg hp, if_neg (by omega)]
theorem mk_of (s : ByteArray) : (⟨s.data.toList.toArray⟩ : ByteArray) = s := by
  apply ByteArray.ext
  simp
theorem extract_list (s : ByteArray) (a b : Nat) : (s.extract a b).data.toList = (s.data.toList.drop a).take (b - a) := by
  rw [ByteArray.data_extract]
  simp
theorem trim_left (s : ByteArray) : (Lib.trimLeftF blankP s).data.toList = trimLB s.data.toList := by
  have hl : s.data.toList.length = s.size := rfl
  have hi := idx_from s s.size 0 (by omega) (by omega)
  rw [List.drop_zero, Nat.zero_add] at hi
  have hd := drop_while blankBN s.data.toList
  have hle : (s.data.toList.takeWhile blankBN).length ≤ s.data.toList.length := (List.takeWhile_prefix blankBN).length_le
  unfold Lib.trimLeftF Lib.idxFunc trimLB
  rw [hi, ← hd]
  by_cases h : (s.data.toList.takeWhile blankBN).length < s.size
  · rw [if_pos h, if_neg (by omega), Int.toNat_natCast, extract_list]
    exact List.take_of_length_le (by rw [List.length_drop]; omega)
  · rw [if_neg h, if_pos rfl, List.drop_eq_nil_of_le (by omega)]
theorem trim_take (l : List UInt8) (j : Nat) (hj : j ≤ l.length) (hb : (l.drop j).all blankBN = true) (h : j = 0 ∨ blankBN (l.getD (j - 1) 0) = false) : trimRB l = l.take j := by
  unfold trimRB
  have hs : l.reverse = (l.drop j).reverse ++ (l.take j).reverse := by rw [← List.reverse_append, List.take_append_drop]
  rw [hs, List.dropWhile_append_of_pos (by intro a ha; exact List.all_eq_true.1 hb a (List.mem_reverse.1 ha))]
  rcases h with rfl | h
  · simp
  · by_cases h0 : j = 0
    · subst h0; simp
    · obtain ⟨i, rfl⟩ : ∃ i, j = i + 1 := ⟨j - 1, by omega⟩
      have hil : i < l.length := by omega
      rw [Nat.add_sub_cancel, List.getD_eq_getElem?_getD, List.getElem?_eq_getElem hil] at h
      have ht : l.take (i + 1) = l.take i ++ [l[i]'hil] := (List.take_append_getElem hil).symm
      rw [ht, List.reverse_append, List.reverse_singleton, List.singleton_append, List.dropWhile_cons_of_neg (by simpa using h), List.reverse_cons, List.reverse_reverse]
/-- The last rune's first byte is itself no character below 128, if the last byte is none. -/
theorem last_high (l : List UInt8) (h0 : l ≠ []) (hh : 128 ≤ (l.getD (l.length - 1) 0).toNat) : 128 ≤ (Lib.decodeLastL l).1 ∧ 1 ≤ (Lib.decodeLastL l).2 ∧ (Lib.decodeLastL l).2 ≤ l.length ∧ 128 ≤ (l.getD (l.length - (Lib.decodeLastL l).2) 0).toNat := by
  have hlen : 0 < l.length := List.length_pos_iff.2 h0
  unfold Lib.decodeLastL
  rw [if_neg h0, if_neg (by omega)]
  simp only
  have hst : Lib.lastStart l < l.length ∧ (Lib.lastStart l + 1 = l.length → l.length = 1) := by
    unfold Lib.lastStart
    simp only
    repeat' split
    all_goals omega
  obtain ⟨hs1, hs2⟩ := hst
  generalize Lib.lastStart l = a at *
  by_cases hd : a + (Lib.decodeL (l.drop a)).2 = l.length
  · rw [if_pos hd]
    have hz : (⟨(l.drop a).toArray⟩ : ByteArray).size = l.length - a := by rw [mk_size]; simp
    have hg : (⟨(l.drop a).toArray⟩ : ByteArray)[0]'(by omega) = l.getD a 0 := by
      rw [mk_get, List.getElem_drop, List.getD_eq_getElem?_getD, List.getElem?_eq_getElem (by omega)]
      simp
    by_cases hlo : (l.getD a 0).toNat < 128
    · have hdd : Lib.decodeL (l.drop a) = ((l.getD a 0).toNat, 1) := by
        unfold Lib.decodeL
        rw [decode_ascii _ 0 (by omega) (by rw [hg]; exact hlo), hg]
      rw [hdd] at hd
      have h1 := hs2 hd
      have ha : a = l.length - 1 := by omega
      rw [ha] at hlo
      omega
    · have hdd := decode_high (⟨(l.drop a).toArray⟩ : ByteArray) 0 (by omega) (by rw [hg]; omega)
      have e : Utf8.decode (⟨(l.drop a).toArray⟩ : ByteArray) 0 = Lib.decodeL (l.drop a) := rfl
      rw [e] at hdd
      refine ⟨hdd.1, hdd.2, by omega, ?_⟩
      rw [show l.length - (Lib.decodeL (l.drop a)).2 = a by omega]
      omega
  · rw [if_neg hd]
    refine ⟨by decide, Nat.le_refl _, by simp only; omega, hh⟩
theorem take_getD (l : List UInt8) (i : Nat) (h0 : 0 < i) (hi : i ≤ l.length) : (l.take i).getD ((l.take i).length - 1) 0 = l.getD (i - 1) 0 := by
  have hl : (l.take i).length = i := by rw [List.length_take]; omega
  rw [hl, List.getD_eq_getElem?_getD, List.getD_eq_getElem?_getD, List.getElem?_take_of_lt (by omega)]
theorem last_low (l : List UInt8) (i : Nat) (h0 : 0 < i) (hi : i ≤ l.length) (ha : (l.getD (i - 1) 0).toNat < 128) : Lib.decodeLastL (l.take i) = ((l.getD (i - 1) 0).toNat, 1) := by
  have hg := take_getD l i h0 hi
  have hl : (l.take i).length = i := by rw [List.length_take]; omega
  unfold Lib.decodeLastL
  rw [if_neg (by intro e; rw [e] at hl; simp at hl; omega), hg, if_pos ha]
/-- Where the last byte that is no blank stands. -/
theorem last_at (s : ByteArray) : ∀ (f i : Nat), i ≤ f → i ≤ s.size → ∃ j, j ≤ i ∧ ((s.data.toList.take i).drop j).all blankBN = true ∧ ((j = 0 ∧ Lib.lastIdxFuncFrom blankP false s f i = -1) ∨ (0 < j ∧ blankBN (s.data.toList.getD (j - 1) 0) = false ∧ Lib.lastIdxFuncFrom blankP false s f i = ((j - (Lib.decodeLastL (s.data.toList.take j)).2 : Nat) : Int)))
  | 0, i, h1, h2 => ⟨0, Nat.zero_le _, by rw [show i = 0 by omega]; rfl, .inl ⟨rfl, rfl⟩⟩
  | f + 1, i, h1, h2 => by
    have hl : s.data.toList.length = s.size := rfl
    by_cases h0 : 0 < i
    · rw [Lib.lastIdxFuncFrom, if_pos h0]
      by_cases ha : (s.data.toList.getD (i - 1) 0).toNat < 128
      · have hd := last_low s.data.toList i h0 (by omega) ha
        cases hb : blankBN (s.data.toList.getD (i - 1) 0)
        · refine ⟨i, Nat.le_refl _, by rw [List.drop_eq_nil_of_le (by rw [List.length_take]; omega)]; rfl, .inr ⟨h0, hb, ?_⟩⟩
          rw [if_pos (by rw [hd]; exact hb)]
        · obtain ⟨j, hj, hall, hres⟩ := last_at s f (i - 1) (by omega) (by omega)
          refine ⟨j, by omega, ?_, ?_⟩
          · have hil : i - 1 < s.data.toList.length := by omega
            have ht : s.data.toList.take i = s.data.toList.take (i - 1) ++ [s.data.toList[i - 1]'hil] := by
              have := (List.take_append_getElem hil).symm
              rw [show i - 1 + 1 = i by omega] at this
              exact this
            rw [List.getD_eq_getElem?_getD, List.getElem?_eq_getElem hil] at hb
            rw [ht, List.drop_append_of_le_length (by rw [List.length_take]; omega), List.all_append, hall, List.all_cons, show blankBN (s.data.toList[i - 1]'hil) = true from hb]
            rfl
          · rw [if_neg (by rw [hd]; unfold blankBN at hb; simp only; rw [hb]; decide), hd]
            exact hres
      · have hne : s.data.toList.take i ≠ [] := by
          intro e
          have : (s.data.toList.take i).length = i := by rw [List.length_take]; omega
          rw [e] at this
          simp at this
          omega
        have hg := take_getD s.data.toList i h0 (by omega)
        have hh := last_high (s.data.toList.take i) hne (by rw [hg]; omega)
        refine ⟨i, Nat.le_refl _, by rw [List.drop_eq_nil_of_le (by rw [List.length_take]; omega)]; rfl, .inr ⟨h0, ?_, ?_⟩⟩
        · unfold blankBN
          exact blankP_high _ (by omega)
        · rw [if_pos (blankP_high _ hh.1)]
    · have h00 : i = 0 := by omega
      subst h00
      exact ⟨0, Nat.le_refl _, rfl, .inl ⟨rfl, by rw [Lib.lastIdxFuncFrom, if_neg (by decide)]⟩⟩
theorem mem_getD (l : List UInt8) (i : Nat) (h : i < l.length) : l.getD i 0 ∈ l := by
  rw [List.getD_eq_getElem?_getD, List.getElem?_eq_getElem h]
  exact List.getElem_mem h
theorem trim_right (s : ByteArray) : (Lib.trimRightF blankP s).data.toList = trimRB s.data.toList ∨ ((∃ b ∈ (Lib.trimRightF blankP s).data.toList, 128 ≤ b.toNat) ∧ ∃ b ∈ trimRB s.data.toList, 128 ≤ b.toNat) := by
  have hl : s.data.toList.length = s.size := rfl
  obtain ⟨j, hj, hall, hres⟩ := last_at s s.size s.size (Nat.le_refl _) (Nat.le_refl _)
  rw [List.take_of_length_le (by omega)] at hall
  have htr := trim_take s.data.toList j (by omega) hall
  unfold Lib.trimRightF Lib.rightEndF Lib.lastIdxFunc
  rcases hres with ⟨rfl, hi⟩ | ⟨h0, hb, hi⟩
  · rw [hi, if_neg (by decide), extract_list, htr (.inl rfl)]
    simp
  · rw [hi, if_pos (by omega), Int.toNat_natCast, htr (.inr hb)]
    by_cases ha : (s.data.toList.getD (j - 1) 0).toNat < 128
    · rw [last_low s.data.toList j h0 (by omega) ha]
      simp only
      have hsz : (s.extract (j - 1) s.size).size = s.size - (j - 1) := by rw [ByteArray.size_extract]; omega
      have hg : (s.extract (j - 1) s.size)[0]'(by omega) = s.data.toList.getD (j - 1) 0 := by
        rw [ByteArray.getElem_extract, List.getD_eq_getElem?_getD, List.getElem?_eq_getElem (by omega)]
        rfl
      unfold Lib.decodeGoB
      rw [if_neg (by omega), decode_ascii _ 0 (by omega) (by rw [hg]; exact ha), extract_list]
      refine .inl ?_
      simp only [List.drop_zero, Nat.sub_zero]
      rw [show j - 1 + 1 = j by omega]
    · refine .inr ⟨?_, ⟨s.data.toList.getD (j - 1) 0, ?_, by omega⟩⟩
      · have hne : s.data.toList.take j ≠ [] := by
          intro e
          have : (s.data.toList.take j).length = j := by rw [List.length_take]; omega
          rw [e] at this
          simp at this
          omega
        have hlj : (s.data.toList.take j).length = j := by rw [List.length_take]; omega
        obtain ⟨g1, g2, g3, g4⟩ := last_high (s.data.toList.take j) hne (by rw [take_getD _ j h0 (by omega)]; omega)
        rw [hlj] at g3 g4
        generalize (Lib.decodeLastL (s.data.toList.take j)).2 = d at *
        have hw : 1 ≤ (Lib.decodeGoB (s.extract (j - d) s.size)).2 := by
          have hsz : (s.extract (j - d) s.size).size = s.size - (j - d) := by rw [ByteArray.size_extract]; omega
          unfold Lib.decodeGoB
          rw [if_neg (by omega)]
          by_cases hlo : ((s.extract (j - d) s.size)[0]'(by omega)).toNat < 128
          · rw [decode_ascii _ 0 (by omega) hlo]
            exact Nat.le_refl _
          · exact (decode_high _ 0 (by omega) (by omega)).2
        refine ⟨(s.data.toList.take j).getD (j - d) 0, ?_, g4⟩
        have e : (s.data.toList.take j).getD (j - d) 0 = (s.extract 0 (j - d + (Lib.decodeGoB (s.extract (j - d) s.size)).2)).data.toList.getD (j - d) 0 := by
          rw [extract_list, List.drop_zero, Nat.sub_zero, List.getD_eq_getElem?_getD, List.getD_eq_getElem?_getD, List.getElem?_take_of_lt (by omega), List.getElem?_take_of_lt (by omega)]
        rw [e]
        refine mem_getD _ _ ?_
        rw [extract_list, List.drop_zero, Nat.sub_zero, List.length_take]
        omega
      · have e : s.data.toList.getD (j - 1) 0 = (s.data.toList.take j).getD (j - 1) 0 := by
          rw [List.getD_eq_getElem?_getD, List.getD_eq_getElem?_getD, List.getElem?_take_of_lt (by omega)]
        rw [e]
        exact mem_getD _ _ (by rw [List.length_take]; omega)
theorem trim_any (s : ByteArray) : (Lib.trimF blankP s).data.toList = trimB s.data.toList ∨ ((∃ b ∈ (Lib.trimF blankP s).data.toList, 128 ≤ b.toNat) ∧ ∃ b ∈ trimB s.data.toList, 128 ≤ b.toNat) := by
  unfold Lib.trimF trimB
  have := trim_right (Lib.trimLeftF blankP s)
  rw [trim_left] at this
  exact this
theorem trimF_size (s : ByteArray) : (Lib.trimF blankP s).size ≤ s.size := by
  have h1 : (Lib.trimLeftF blankP s).size ≤ s.size := by
    show (Lib.trimLeftF blankP s).data.toList.length ≤ s.data.toList.length
    rw [trim_left]
    exact (List.dropWhile_suffix _).length_le
  have h2 : (Lib.trimRightF blankP (Lib.trimLeftF blankP s)).size ≤ (Lib.trimLeftF blankP s).size := by
    unfold Lib.trimRightF
    rw [ByteArray.size_extract]
    omega
  unfold Lib.trimF
  omega
end Go.Proofs.YthkkfldmoflfaaaGreatDoor
