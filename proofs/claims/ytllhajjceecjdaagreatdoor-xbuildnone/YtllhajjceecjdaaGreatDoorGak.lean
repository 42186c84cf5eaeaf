/- Several texts, laid as one. -/
import Derived.Test.YtllhajjceecjdaaGreatDoorGaf
import Derived.Lib.DecodeN
import Derived.Test.YtllhajjceecjdaaGreatDoorGac
import Derived.Lib.RuneCountTail
import Derived.Test.YtllhajjceecjdaaGreatDoorRunePlain
/- What is decoded of a text, byte by byte: plain lemmas. -/
namespace Go.Proofs.YtllhajjceecjdaaGreatDoor
open Go.RowKit
theorem get_data (s : ByteArray) (i : Nat) (h : i < s.size) : s.get! i = s.data.toList[i]'h := by
  show s.data[i]! = _
  rw [getElem!_pos s.data i h]; rfl
end Go.Proofs.YtllhajjceecjdaaGreatDoor
/- Which characters may be: the reference's IsChar. -/
namespace Go.Proofs.YtllhajjceecjdaaGreatDoor
open Go.RowKit
end Go.Proofs.YtllhajjceecjdaaGreatDoor
/- The first byte that is no part of a character that may be: the reference's Bad and IsText. -/
namespace Go.Proofs.YtllhajjceecjdaaGreatDoor
open Go.RowKit
end Go.Proofs.YtllhajjceecjdaaGreatDoor
/- What the program takes for a fault is what the reference takes for one: plain lemmas. -/
namespace Go.Proofs.YtllhajjceecjdaaGreatDoor
open Go.RowKit
theorem mark_iff (s : ByteArray) (pos : Nat) : markAt s pos = true ↔ pos + 2 < s.size ∧ (s.get! pos).toNat = 239 ∧ (s.get! (pos + 1)).toNat = 191 ∧ (s.get! (pos + 2)).toNat = 189 := by
  have hl : s.data.toList.length = s.size := rfl
  unfold markAt Lib.hasPrefix
  rw [List.isPrefixOf_iff_prefix, List.prefix_iff_eq_take]
  constructor
  · intro h
    have h3 : pos + 2 < s.size := by
      have := congrArg List.length h
      simp only [List.length_take, List.length_drop, List.length_cons, List.length_nil, hl] at this
      omega
    have g : ∀ k (hk : k < 3), (s.data.toList[pos + k]'(by omega)) = [239, 191, 189][k]'hk := fun k hk => by
      have := congrArg (·[k]?) h
      simp only [List.getElem?_take, List.getElem?_drop, List.length_cons, List.length_nil, hk, if_true] at this
      rw [List.getElem?_eq_getElem (by simpa using hk), List.getElem?_eq_getElem (by omega)] at this
      exact (Option.some.inj this).symm
    refine ⟨h3, ?_, ?_, ?_⟩
    · rw [get_data s pos (by omega)]; have := g 0 (by decide); simp only [Nat.add_zero] at this; rw [this]; rfl
    · rw [get_data s (pos + 1) (by omega), g 1 (by decide)]; rfl
    · rw [get_data s (pos + 2) (by omega), g 2 (by decide)]; rfl
  · rintro ⟨h3, h0, h1, h2⟩
    rw [get_data s pos (by omega)] at h0
    rw [get_data s (pos + 1) (by omega)] at h1
    rw [get_data s (pos + 2) (by omega)] at h2
    rw [List.drop_eq_getElem_cons (by omega), List.drop_eq_getElem_cons (by omega), List.drop_eq_getElem_cons (by omega)]
    simp only [List.length_cons, List.length_nil, List.take_succ_cons, List.take_zero]
    rw [UInt8.toNat_inj.1 (show _ = (239 : UInt8).toNat from h0), UInt8.toNat_inj.1 (show _ = (191 : UInt8).toNat from h1), UInt8.toNat_inj.1 (show _ = (189 : UInt8).toNat from h2)]
/-- The replacement character is decoded of its own three bytes, or of one byte that is none. -/
theorem mark_width (s : ByteArray) (pos : Nat) (h : (Utf8.decode s pos).1 = 65533) : (!markAt s pos) = ((Utf8.decode s pos).2 == 1) := by
  have b0 := (s.get! pos).toNat_lt
  have b1 := (s.get! (pos + 1)).toNat_lt
  have b2 := (s.get! (pos + 2)).toNat_lt
  have hm := mark_iff s pos
  revert h
  rw [Lib.decode_at]
  intro h
  generalize (s.get! pos).toNat = x0 at *
  generalize (s.get! (pos + 1)).toNat = x1 at *
  generalize (s.get! (pos + 2)).toNat = x2 at *
  generalize (s.get! (pos + 3)).toNat = x3 at *
  have key : ((Lib.decodeN (s.size - pos) x0 x1 x2 x3).2 = 1 ∧ ¬ (pos + 2 < s.size ∧ x0 = 239 ∧ x1 = 191 ∧ x2 = 189)) ∨ ((Lib.decodeN (s.size - pos) x0 x1 x2 x3).2 ≠ 1 ∧ (pos + 2 < s.size ∧ x0 = 239 ∧ x1 = 191 ∧ x2 = 189)) := by
    revert h
    unfold Lib.decodeN
    repeat' split
    all_goals (intro h; first | (exfalso; simp only at h; omega) | (left; refine ⟨rfl, ?_⟩; omega) | (right; refine ⟨by simp only; omega, ?_⟩; simp only at h; omega))
  rcases key with ⟨k1, k2⟩ | ⟨k1, k2⟩
  · rw [k1]
    cases hc : markAt s pos
    · rfl
    · exact absurd (hm.1 hc) k2
  · rw [hm.2 k2]
    simp [k1]
end Go.Proofs.YtllhajjceecjdaaGreatDoor
/- Texts, as characters one behind the other, in UTF-8: plain lemmas. -/
namespace Go.Proofs.YtllhajjceecjdaaGreatDoor
open Go.RowKit
theorem charB_dec (s : ByteArray) (pos : Nat) : charB ((Utf8.decode s pos).1 : Nat) = charR ((Utf8.decode s pos).1 : Nat) :=
  charB_eq _ (by have := rune_le s pos; omega)
theorem txt_nil : Txt [] := ⟨[], by simp, rfl⟩
theorem txt_cons {r : Nat} {t : List UInt8} (hr : charR (r : Int) = true) (h : Txt t) : Txt (runeB r ++ t) := by
  obtain ⟨rs, h1, rfl⟩ := h
  exact ⟨r :: rs, fun x hx => by rcases List.mem_cons.1 hx with rfl | hx; exact hr; exact h1 x hx, rfl⟩
theorem txt_head {l : List UInt8} (h : Txt l) (hl : l ≠ []) : charR ((Lib.decodeL l).1 : Nat) = true ∧ l = runeB (Lib.decodeL l).1 ++ l.drop (Lib.decodeL l).2 ∧ Txt (l.drop (Lib.decodeL l).2) ∧ ¬ ((Lib.decodeL l).1 = 65533 ∧ (Lib.decodeL l).2 = 1) := by
  obtain ⟨rs, h1, rfl⟩ := h
  cases rs with
  | nil => exact absurd rfl hl
  | cons r rs =>
    have hr := h1 r (by simp)
    have e : (r :: rs).flatMap runeB = runeB r ++ rs.flatMap runeB := rfl
    rw [e, dec_rune r (charR_ok hr)]
    simp only [List.drop_left]
    refine ⟨hr, trivial, ⟨rs, fun x hx => h1 x (by simp [hx]), rfl⟩, ?_⟩
    rintro ⟨rfl, hh⟩
    exact absurd hh (by decide +kernel)
theorem drop_nil (s : ByteArray) (pos : Nat) (h : ¬ pos < s.size) : s.data.toList.drop pos = [] := List.drop_eq_nil_of_le (by show s.size ≤ pos; omega)
theorem drop_ne (s : ByteArray) (pos : Nat) (h : pos < s.size) : s.data.toList.drop pos ≠ [] := by
  intro e
  have := congrArg List.length e
  rw [List.length_drop] at this
  have h' : s.data.toList.length = s.size := rfl
  simp at this
  omega
theorem fault_txt (s : ByteArray) : ∀ f pos, s.size < pos + f → ((faultFrom s f pos).1 = 0 ↔ Txt (s.data.toList.drop pos))
  | 0, pos, h => by
    rw [drop_nil s pos (by omega)]
    exact ⟨fun _ => txt_nil, fun _ => rfl⟩
  | f + 1, pos, h => by
    by_cases hp : pos < s.size
    · rw [faultFrom, if_pos hp, charB_dec]
      have hne := drop_ne s pos hp
      have hw := width_pos s pos hp
      have hmw := mark_width s pos
      have hrd := rune_dec _ hne
      have hth := fun hx => txt_head (l := s.data.toList.drop pos) hx hne
      rw [Lib.decodeL_drop] at hrd hth
      rw [List.drop_drop] at hrd hth
      have ih := fault_txt s f (pos + (Utf8.decode s pos).2) (by omega)
      generalize Utf8.decode s pos = d at *
      by_cases hb : d.1 = 65533 ∧ d.2 = 1
      · have e : (((d.1 : Nat) : Int) == 65533 && !markAt s pos) = true := by rw [hmw hb.1, hb.1, hb.2]; rfl
        rw [if_pos e]
        exact ⟨fun h => absurd h (by simp), fun h => absurd hb (hth h).2.2.2⟩
      · have e : ¬ (((d.1 : Nat) : Int) == 65533 && !markAt s pos) = true := by
          intro h
          rw [Bool.and_eq_true] at h
          have h1 : d.1 = 65533 := by have := beq_iff_eq.1 h.1; omega
          rw [hmw h1] at h
          exact hb ⟨h1, beq_iff_eq.1 h.2⟩
        rw [if_neg e]
        obtain ⟨ho, heq⟩ := hrd hb
        by_cases hc : charR ((d.1 : Nat) : Int) = true
        · rw [if_pos hc, ih]
          exact ⟨fun h => by rw [heq]; exact txt_cons hc h, fun h => (hth h).2.2.1⟩
        · rw [if_neg hc]
          exact ⟨fun h => absurd h (by simp), fun h => absurd (hth h).1 hc⟩
    · rw [faultFrom, if_neg hp, drop_nil s pos hp]
      exact ⟨fun _ => txt_nil, fun _ => rfl⟩
end Go.Proofs.YtllhajjceecjdaaGreatDoor
