/- A number's text with blanks around it is a text of characters that may be, encoded and decoded as it was. -/
import Derived.Test.YtfgifocgkiploaaGreatDoorBackPlain
import Derived.Test.YtfgifocgkiploaaGreatDoorTrimPlain
import Derived.Test.YtfgifocgkiploaaGreatDoorNumAround
import Derived.Lib.ValidLaws
namespace Go.Proofs.YtfgifocgkiploaaGreatDoor
open Go.RowKit
/-- Bytes of plain characters. -/
def plainB (b : UInt8) : Bool := b == 9 || b == 10 || (decide (32 ≤ b.toNat) && decide (b.toNat ≤ 126))
theorem plain_lt {b : UInt8} (h : plainB b = true) : b.toNat < 128 ∧ charR (b.toNat : Int) = true ∧ b ≠ 13 ∧ b ≠ 239 := by
  unfold plainB at h
  simp only [Bool.or_eq_true, beq_iff_eq, Bool.and_eq_true, decide_eq_true_eq] at h
  rcases h with (rfl | rfl) | ⟨h1, h2⟩
  · decide
  · decide
  · refine ⟨by omega, ?_, ?_, ?_⟩
    · unfold charR
      simp
      omega
    · rintro rfl; exact absurd h1 (by decide)
    · rintro rfl; exact absurd h2 (by decide)
theorem plain_get (l : List UInt8) (h : l.all plainB = true) (i : Nat) (hi : i < (⟨l.toArray⟩ : ByteArray).size) : plainB ((⟨l.toArray⟩ : ByteArray)[i]'hi) = true := by
  rw [mk_get]
  exact List.all_eq_true.1 h _ (List.getElem_mem _)
theorem plain_bad (l : List UInt8) (h : l.all plainB = true) : ∀ (f pos : Nat), badFrom ⟨l.toArray⟩ f pos = (-1, false)
  | 0, _ => rfl
  | f + 1, pos => by
    rw [badFrom]
    split
    · rename_i hp
      obtain ⟨h1, h2, _, _⟩ := plain_lt (plain_get l h pos hp)
      rw [decode_ascii _ pos hp h1, if_neg (by simp; omega), if_pos h2]
      exact plain_bad l h f _
    · rfl
theorem plain_text (l : List UInt8) (h : l.all plainB = true) : textR ⟨l.toArray⟩ = true := by
  unfold textR
  rw [plain_bad l h]
  rfl
theorem plain_mark (l : List UInt8) (h : l.all plainB = true) : Lib.hasPrefix l [239, 187, 191] = false := by
  cases l with
  | nil => rfl
  | cons c r =>
    rw [List.all_cons, Bool.and_eq_true] at h
    have hc := (plain_lt h.1).2.2.2
    unfold Lib.hasPrefix
    have : ((239 : UInt8) == c) = false := by
      cases he : (239 : UInt8) == c with
      | false => rfl
      | true => exact absurd (beq_iff_eq.1 he).symm hc
    simp [List.isPrefixOf, this]
theorem wide_len (s : ByteArray) : ∀ (f pos : Nat), (wideFrom s f pos).length ≤ 4 * (s.size - pos)
  | 0, _ => by simp [wideFrom]
  | f + 1, pos => by
    rw [wideFrom]
    split
    · rename_i hp
      have h1 := wide_len s f (pos + (Utf8.decode s pos).2)
      have h2 := wideR_len (Utf8.decode s pos).1
      have h3 := width_pos s pos hp
      rw [List.length_append]
      omega
    · simp
theorem plain_enc (l : List UInt8) (wide : Bool) (h : l.all plainB = true) (hl : l.length ≤ 1000) : (encV ⟨l.toArray⟩ wide).2 = 0 ∧ (encV ⟨l.toArray⟩ wide).1.size ≤ 32768 := by
  have hv : Lib.validD (⟨l.toArray⟩ : ByteArray).data.toList = true := by
    rw [mk_list, Lib.validD_ascii l.length l (fun b hb => (plain_lt (List.all_eq_true.1 h b (List.mem_of_mem_take hb))).1), List.drop_length]
    rfl
  have hs : (⟨l.toArray⟩ : ByteArray).size = l.length := mk_size l
  unfold encV
  rw [hv]
  simp only [Bool.not_true, Bool.false_eq_true, if_false]
  rw [if_neg (by omega)]
  cases wide
  · exact ⟨rfl, by show (⟨l.toArray⟩ : ByteArray).size ≤ _; omega⟩
  · refine ⟨rfl, ?_⟩
    show (⟨(encW ⟨l.toArray⟩).toArray⟩ : ByteArray).size ≤ _
    rw [mk_size]
    have := wide_len ⟨l.toArray⟩ ((⟨l.toArray⟩ : ByteArray).size + 1) 0
    unfold encW
    rw [List.length_append]
    simp only [List.length_cons, List.length_nil]
    omega
theorem plain_back (l : List UInt8) (wide : Bool) (h : l.all plainB = true) (hl : l.length ≤ 1000) : decodeAll (encV ⟨l.toArray⟩ wide).1 = .tuple #[.string ⟨l.toArray⟩, .int .i64 0, .int .i64 0] :=
  back_plain ⟨l.toArray⟩ wide (plain_text l h) (fun c hc => by rw [mk_list] at hc; exact (plain_lt (List.all_eq_true.1 h c hc)).2.2.1) (by rw [mk_list]; exact plain_mark l h) (plain_enc l wide h hl).1 (plain_enc l wide h hl).2
theorem around_plain (T : List UInt8) (hr : ∀ b ∈ T, 45 ≤ b.toNat ∧ b.toNat ≤ 122) : (aroundL T).all plainB = true := by
  unfold aroundL
  rw [List.all_cons, List.all_cons, List.all_append]
  have : T.all plainB = true := List.all_eq_true.2 fun b hb => by
    have := hr b hb
    unfold plainB
    simp
    omega
  rw [this]
  decide
theorem around_trimU (T : List UInt8) (hr : ∀ b ∈ T, 45 ≤ b.toNat ∧ b.toNat ≤ 122) : trimU (aroundL T) = T := by
  unfold trimU aroundL
  have hb : ∀ c ∈ T, blankU c = false := fun c hc => by
    have := (hr c hc).1
    unfold blankU blankB
    simp
    omega
  rw [List.foldl_cons, step_blank _ _ (by decide), List.foldl_cons, step_blank _ _ (by decide), fold_flag, List.foldl_append, fold_others T [] hb, List.nil_append, List.foldl_cons, step_blank _ _ (by decide)]
  rfl
end Go.Proofs.YtfgifocgkiploaaGreatDoor
