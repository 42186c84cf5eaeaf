/- What is encoded is decoded as it was; what is decoded is a text without 13: plain lemmas. -/
import Derived.Test.YtfgifocgkiploaaGreatDoorTextPlain
import Derived.Test.YtfgifocgkiploaaGreatDoorDecAll
namespace Go.Proofs.YtfgifocgkiploaaGreatDoor
open Go.RowKit
theorem txt_of_text (s : ByteArray) (h : textR s = true) : Txt s.data.toList := by
  have e := text_eq s (s.size + 1) 0
  unfold textR at h
  rw [h] at e
  have := (fault_txt s (s.size + 1) 0 (by omega)).1 (beq_iff_eq.1 e)
  simpa using this
theorem fault_of_txt (l : List UInt8) (h : Txt l) : (fault ⟨l.toArray⟩).1 = 0 :=
  (fault_txt ⟨l.toArray⟩ _ 0 (by omega)).2 (by simpa using h)
theorem txt_of_fault (l : List UInt8) (h : (fault ⟨l.toArray⟩).1 = 0) : Txt l := by
  have := (fault_txt ⟨l.toArray⟩ _ 0 (by omega)).1 h
  simpa using this
theorem endsL_is (l : List UInt8) : endsL l = endsR l := endsL_eq l.length l (Nat.le_refl _)
theorem txt_endsL {l : List UInt8} (h : Txt l) : Txt (endsL l) := by
  obtain ⟨rs, h1, rfl⟩ := h
  rw [endsL_is]
  exact txt_ends rs h1
theorem narrowL_no {l : List UInt8} (h : ∀ c ∈ l, c ≠ 13) : ∀ c ∈ narrowL l, c ≠ 13 := by
  unfold narrowL Lib.trimPrefix
  split
  · exact fun c hc => h c (List.mem_of_mem_drop hc)
  · exact h
/-- A text without 13 is decoded as it is, but for the mark. -/
theorem decodeAll_txt (s : ByteArray) (ht : Txt s.data.toList) (h13 : ∀ c ∈ s.data.toList, c ≠ 13) (hs : s.size ≤ 32768) :
    decodeAll s = .tuple #[.string ⟨(narrowL s.data.toList).toArray⟩, .int .i64 0, .int .i64 0] := by
  unfold decodeAll
  rw [if_neg (by omega), if_neg (by rw [txt_first ht 254 255 (by decide)]; decide), if_neg (by rw [txt_first ht 255 254 (by decide)]; decide)]
  unfold decodedV
  rw [if_pos (fault_of_txt _ (txt_narrow ht)), endsL_is, endsR_plain _ (narrowL_no h13)]
theorem toArray_data (s : ByteArray) : (⟨s.data.toList.toArray⟩ : ByteArray) = s := by simp
theorem back_plain (s : ByteArray) (wide : Bool) (htext : textR s = true) (h13 : ∀ c ∈ s.data.toList, c ≠ 13) (hmark : Lib.hasPrefix s.data.toList [239, 187, 191] = false)
    (henc : (encV s wide).2 = 0) (hlen : (encV s wide).1.size ≤ 32768) : decodeAll (encV s wide).1 = .tuple #[.string s, .int .i64 0, .int .i64 0] := by
  have ht := txt_of_text s htext
  unfold encV at henc hlen ⊢
  by_cases hv : (!Lib.validD s.data.toList) = true
  · rw [if_pos hv] at henc; exact absurd henc (by decide)
  · rw [if_neg hv] at henc hlen ⊢
    by_cases hb : 32768 < s.size
    · rw [if_pos hb] at henc; exact absurd henc (by decide)
    · rw [if_neg hb] at henc hlen ⊢
      cases wide
      · simp only [Bool.false_eq_true, if_false] at hlen ⊢
        rw [decodeAll_txt s ht h13 hlen]
        unfold narrowL Lib.trimPrefix
        rw [if_neg (by rw [hmark]; decide), toArray_data]
      · simp only [if_true] at hlen ⊢
        obtain ⟨rs, h1, h2⟩ := ht
        have hw := wide_txt s rs (s.size + 1) 0 (by omega) (by simpa using h2) h1
        have he : encW s = [254, 255] ++ rs.flatMap wideR := by unfold encW; rw [hw]
        rw [he] at hlen ⊢
        unfold decodeAll
        rw [if_neg (by omega), if_pos (by simp [Lib.hasPrefix])]
        have hd : decW ⟨([254, 255] ++ rs.flatMap wideR).toArray⟩ false = (rs.flatMap runeB, 0, 0) := by
          unfold decW
          rw [dec_back _ rs _ 2 [] (by omega) (by simp) h1]
          rfl
        rw [hd]
        unfold decEnd
        simp only [if_true]
        rw [← h2, endsL_is, endsR_plain _ h13, toArray_data]
/-- What Decode tells: an error and no text, or a text without 13. -/
theorem dec_cases (t : ByteArray) : (∃ e p, e ≠ 0 ∧ decodeAll t = .tuple #[.string ⟨#[]⟩, .int .i64 e, .int .i64 p]) ∨
    (∃ l, Txt l ∧ (∀ c ∈ l, c ≠ 13) ∧ l.length ≤ 200000 ∧ decodeAll t = .tuple #[.string ⟨l.toArray⟩, .int .i64 0, .int .i64 0]) := by
  have wide : ∀ high, t.size ≤ 32768 → (∃ e p, e ≠ 0 ∧ decEnd (decW t high) = .tuple #[.string ⟨#[]⟩, .int .i64 e, .int .i64 p]) ∨
    (∃ l, Txt l ∧ (∀ c ∈ l, c ≠ 13) ∧ l.length ≤ 200000 ∧ decEnd (decW t high) = .tuple #[.string ⟨l.toArray⟩, .int .i64 0, .int .i64 0]) := by
    intro high hs
    have hlen := decW_len t high
    have htx : (decW t high).2.1 = 0 → Txt (decW t high).1 := dec_txt t high _ _ _ txt_nil
    generalize decW t high = x at *
    unfold decEnd
    by_cases h0 : x.2.1 = 0
    · rw [if_pos h0]
      refine .inr ⟨endsL x.1, txt_endsL (htx h0), by rw [endsL_is]; exact endsR_no _, ?_, rfl⟩
      have := endsL_le x.1
      omega
    · rw [if_neg h0]
      exact .inl ⟨_, _, h0, rfl⟩
  unfold decodeAll
  by_cases hb : 32768 < t.size
  · rw [if_pos hb]
    exact .inl ⟨6, 0, by decide, rfl⟩
  · rw [if_neg hb]
    by_cases h1 : Lib.hasPrefix t.data.toList [254, 255] = true
    · rw [if_pos h1]; exact wide false (by omega)
    · rw [if_neg h1]
      by_cases h2 : Lib.hasPrefix t.data.toList [255, 254] = true
      · rw [if_pos h2]; exact wide true (by omega)
      · rw [if_neg h2]
        have hn := narrowL_le t.data.toList
        have hl : t.data.toList.length = t.size := rfl
        generalize narrowL t.data.toList = l at *
        unfold decodedV
        by_cases h0 : (fault ⟨l.toArray⟩).1 = 0
        · rw [if_pos h0]
          refine .inr ⟨endsL l, txt_endsL (txt_of_fault l h0), by rw [endsL_is]; exact endsR_no _, ?_, rfl⟩
          have := endsL_le l
          omega
        · rw [if_neg h0]
          exact .inl ⟨_, _, h0, rfl⟩
end Go.Proofs.YtfgifocgkiploaaGreatDoor
