/- Several texts, laid as one. -/
import Derived.Test.YtiembljlhmgpjaaGreatDoorGac
import Derived.Lib.DecodeN
import Derived.Test.YtiembljlhmgpjaaGreatDoorGaa
import Derived.Lib.RuneCountTail
import Derived.Test.YtiembljlhmgpjaaGreatDoorGae
/- What is decoded of a text, byte by byte: plain lemmas. -/
namespace Go.Proofs.YtiembljlhmgpjaaGreatDoor
open Go.RowKit
theorem get_data (s : ByteArray) (i : Nat) (h : i < s.size) : s.get! i = s.data.toList[i]'h := by
  show s.data[i]! = _
  rw [getElem!_pos s.data i h]; rfl
/-- What is decoded at a place: a byte below 128 is itself, of width 1; bytes behind the first are 128 or above; none lies beyond the end. -/
theorem decode_bytes (s : ByteArray) (pos : Nat) (hp : pos < s.size) :
    ((s.get! pos).toNat < 128 → Utf8.decode s pos = ((s.get! pos).toNat, 1)) ∧ (∀ k, 1 ≤ k → k < (Utf8.decode s pos).2 → 128 ≤ (s.get! (pos + k)).toNat) ∧ pos + (Utf8.decode s pos).2 ≤ s.size := by
  rw [Lib.decode_at]
  generalize (s.get! pos).toNat = b0
  generalize h1 : (s.get! (pos + 1)).toNat = b1
  generalize h2 : (s.get! (pos + 2)).toNat = b2
  generalize h3 : (s.get! (pos + 3)).toNat = b3
  refine ⟨fun h => by unfold Lib.decodeN; rw [if_pos h], fun k hk hk' => ?_, ?_⟩
  · have key : (k = 1 ∧ 128 ≤ b1) ∨ (k = 2 ∧ 128 ≤ b2) ∨ (k = 3 ∧ 128 ≤ b3) := by
      revert hk'
      unfold Lib.decodeN
      repeat' split
      all_goals (intro hk'; simp only at hk'; omega)
    rcases key with ⟨rfl, h⟩ | ⟨rfl, h⟩ | ⟨rfl, h⟩
    · rw [h1]; exact h
    · rw [h2]; exact h
    · rw [h3]; exact h
  · unfold Lib.decodeN
    repeat' split
    all_goals (simp only; omega)
end Go.Proofs.YtiembljlhmgpjaaGreatDoor
/- Which characters may be: the reference's IsChar. -/
namespace Go.Proofs.YtiembljlhmgpjaaGreatDoor
open Go.RowKit
end Go.Proofs.YtiembljlhmgpjaaGreatDoor
/- The first byte that is no part of a character that may be: the reference's Bad and IsText. -/
namespace Go.Proofs.YtiembljlhmgpjaaGreatDoor
open Go.RowKit
/-- The first byte that is no part of a character that may be, from a place on; is it no part of a character at all? -/
def badFrom (s : ByteArray) : Nat → Nat → Int × Bool
  | 0, _ => (-1, false)
  | f + 1, pos => if pos < s.size then
      (if ((Utf8.decode s pos).1 : Int) == 65533 && ((Utf8.decode s pos).2 : Int) == 1 then ((pos : Int), true)
       else if charR (Utf8.decode s pos).1 then badFrom s f (pos + (Utf8.decode s pos).2) else ((pos : Int), false))
    else (-1, false)
theorem decodeRune_at (s : ByteArray) (pos : Nat) (w : World) (hp : pos < s.size) (hE : Env w) :
    Calls Tryz.prog 29 #[.string (s.extract pos s.size)] w fun e w' => e = .returned (.tuple #[.int .i32 (Utf8.decode s pos).1, .int .i64 (Utf8.decode s pos).2]) ∧ Below w.heap.size w w' := by
  have e : Lib.decodeGo (s.extract pos s.size) = Utf8.decode s pos := by
    unfold Lib.decodeGo
    rw [if_neg (by rw [ByteArray.size_extract]; omega), Lib.tail_decode, Nat.add_zero]
  have := Tryz.utf8_DecodeRuneInString (s.extract pos s.size) w hE.tabs
  rw [e] at this
  exact this
def textR (s : ByteArray) : Bool := decide ((badFrom s (s.size + 1) 0).1 < 0)
end Go.Proofs.YtiembljlhmgpjaaGreatDoor
/- What the program takes for a fault is what the reference takes for one: plain lemmas. -/
namespace Go.Proofs.YtiembljlhmgpjaaGreatDoor
open Go.RowKit
theorem mark_iff (s : ByteArray) (pos : Nat) : markAt s pos = true ↔ pos + 2 < s.size ∧ (s.get! pos).toNat = 239 ∧ (s.get! (pos + 1)).toNat = 191 ∧ (s.get! (pos + 2)).toNat = 189 := by
  have hl : s.data.toList.length = s.size := rfl
  unfold markAt Lib.hasPrefix
  rw [List.isPrefixOf_iff_prefix, List.prefix_iff_eq_take]
  constructor
  · intro h
    have h3 : pos + 2 < s.size := by
      have := congrArg List.length h
      simp only [List.length_take, List.length_drop, List.length_cons, List.length_nil, hl] at this
      omega
    have g : ∀ k (hk : k < 3), (s.data.toList[pos + k]'(by omega)) = [239, 191, 189][k]'hk := fun k hk => by
      have := congrArg (·[k]?) h
      simp only [List.getElem?_take, List.getElem?_drop, List.length_cons, List.length_nil, hk, if_true] at this
      rw [List.getElem?_eq_getElem (by simpa using hk), List.getElem?_eq_getElem (by omega)] at this
      exact (Option.some.inj this).symm
    refine ⟨h3, ?_, ?_, ?_⟩
    · rw [get_data s pos (by omega)]; have := g 0 (by decide); simp only [Nat.add_zero] at this; rw [this]; rfl
    · rw [get_data s (pos + 1) (by omega), g 1 (by decide)]; rfl
    · rw [get_data s (pos + 2) (by omega), g 2 (by decide)]; rfl
  · rintro ⟨h3, h0, h1, h2⟩
    rw [get_data s pos (by omega)] at h0
    rw [get_data s (pos + 1) (by omega)] at h1
    rw [get_data s (pos + 2) (by omega)] at h2
    rw [List.drop_eq_getElem_cons (by omega), List.drop_eq_getElem_cons (by omega), List.drop_eq_getElem_cons (by omega)]
    simp only [List.length_cons, List.length_nil, List.take_succ_cons, List.take_zero]
    rw [UInt8.toNat_inj.1 (show _ = (239 : UInt8).toNat from h0), UInt8.toNat_inj.1 (show _ = (191 : UInt8).toNat from h1), UInt8.toNat_inj.1 (show _ = (189 : UInt8).toNat from h2)]
/-- The replacement character is decoded of its own three bytes, or of one byte that is none. -/
theorem mark_width (s : ByteArray) (pos : Nat) (h : (Utf8.decode s pos).1 = 65533) : (!markAt s pos) = ((Utf8.decode s pos).2 == 1) := by
  have b0 := (s.get! pos).toNat_lt
  have b1 := (s.get! (pos + 1)).toNat_lt
  have b2 := (s.get! (pos + 2)).toNat_lt
  have hm := mark_iff s pos
  revert h
  rw [Lib.decode_at]
  intro h
  generalize (s.get! pos).toNat = x0 at *
  generalize (s.get! (pos + 1)).toNat = x1 at *
  generalize (s.get! (pos + 2)).toNat = x2 at *
  generalize (s.get! (pos + 3)).toNat = x3 at *
  have key : ((Lib.decodeN (s.size - pos) x0 x1 x2 x3).2 = 1 ∧ ¬ (pos + 2 < s.size ∧ x0 = 239 ∧ x1 = 191 ∧ x2 = 189)) ∨ ((Lib.decodeN (s.size - pos) x0 x1 x2 x3).2 ≠ 1 ∧ (pos + 2 < s.size ∧ x0 = 239 ∧ x1 = 191 ∧ x2 = 189)) := by
    revert h
    unfold Lib.decodeN
    repeat' split
    all_goals (intro h; first | (exfalso; simp only at h; omega) | (left; refine ⟨rfl, ?_⟩; omega) | (right; refine ⟨by simp only; omega, ?_⟩; simp only at h; omega))
  rcases key with ⟨k1, k2⟩ | ⟨k1, k2⟩
  · rw [k1]
    cases hc : markAt s pos
    · rfl
    · exact absurd (hm.1 hc) k2
  · rw [hm.2 k2]
    simp [k1]
theorem text_eq (s : ByteArray) : ∀ f pos, ((faultFrom s f pos).1 == 0) = decide ((badFrom s f pos).1 < 0)
  | 0, pos => rfl
  | f + 1, pos => by
    have hd := decode_le s pos
    unfold faultFrom badFrom
    by_cases hp : pos < s.size
    · rw [if_pos hp, if_pos hp]
      by_cases h : (Utf8.decode s pos).1 = 65533
      · rw [mark_width s pos h, h]
        by_cases hw : (Utf8.decode s pos).2 = 1
        · simp [hw]
        · have ih := text_eq s f (pos + (Utf8.decode s pos).2)
          have hc : charB ((65533 : Nat) : Int) = true := by decide +kernel
          have hc' : charR ((65533 : Nat) : Int) = true := by decide +kernel
          have hw' : (((Utf8.decode s pos).2 : Int) == 1) = false := by simp; omega
          have hw'' : ((Utf8.decode s pos).2 == 1) = false := by simpa using hw
          simp only [hc, hc', hw', hw'', Bool.and_false, if_true, Bool.false_eq_true, if_false]
          exact ih
      · have h' : (((Utf8.decode s pos).1 : Int) == 65533) = false := by simp; omega
        rw [charB_eq _ (by omega)]
        simp only [h', Bool.false_and, Bool.false_eq_true, if_false]
        cases hc : charR (Utf8.decode s pos).1
        · simp
        · simpa using text_eq s f (pos + (Utf8.decode s pos).2)
    · rw [if_neg hp, if_neg hp]; rfl
end Go.Proofs.YtiembljlhmgpjaaGreatDoor
/- Texts, as characters one behind the other, in UTF-8: plain lemmas. -/
namespace Go.Proofs.YtiembljlhmgpjaaGreatDoor
open Go.RowKit
theorem charB_dec (s : ByteArray) (pos : Nat) : charB ((Utf8.decode s pos).1 : Nat) = charR ((Utf8.decode s pos).1 : Nat) :=
  charB_eq _ (by have := rune_le s pos; omega)
theorem txt_nil : Txt [] := ⟨[], by simp, rfl⟩
theorem txt_cons {r : Nat} {t : List UInt8} (hr : charR (r : Int) = true) (h : Txt t) : Txt (runeB r ++ t) := by
  obtain ⟨rs, h1, rfl⟩ := h
  exact ⟨r :: rs, fun x hx => by rcases List.mem_cons.1 hx with rfl | hx; exact hr; exact h1 x hx, rfl⟩
theorem txt_head {l : List UInt8} (h : Txt l) (hl : l ≠ []) : charR ((Lib.decodeL l).1 : Nat) = true ∧ l = runeB (Lib.decodeL l).1 ++ l.drop (Lib.decodeL l).2 ∧ Txt (l.drop (Lib.decodeL l).2) ∧ ¬ ((Lib.decodeL l).1 = 65533 ∧ (Lib.decodeL l).2 = 1) := by
  obtain ⟨rs, h1, rfl⟩ := h
  cases rs with
  | nil => exact absurd rfl hl
  | cons r rs =>
    have hr := h1 r (by simp)
    have e : (r :: rs).flatMap runeB = runeB r ++ rs.flatMap runeB := rfl
    rw [e, dec_rune r (charR_ok hr)]
    simp only [List.drop_left]
    refine ⟨hr, trivial, ⟨rs, fun x hx => h1 x (by simp [hx]), rfl⟩, ?_⟩
    rintro ⟨rfl, hh⟩
    exact absurd hh (by decide +kernel)
theorem drop_nil (s : ByteArray) (pos : Nat) (h : ¬ pos < s.size) : s.data.toList.drop pos = [] := List.drop_eq_nil_of_le (by show s.size ≤ pos; omega)
theorem drop_ne (s : ByteArray) (pos : Nat) (h : pos < s.size) : s.data.toList.drop pos ≠ [] := by
  intro e
  have := congrArg List.length e
  rw [List.length_drop] at this
  have h' : s.data.toList.length = s.size := rfl
  simp at this
  omega
theorem fault_txt (s : ByteArray) : ∀ f pos, s.size < pos + f → ((faultFrom s f pos).1 = 0 ↔ Txt (s.data.toList.drop pos))
  | 0, pos, h => by
    rw [drop_nil s pos (by omega)]
    exact ⟨fun _ => txt_nil, fun _ => rfl⟩
  | f + 1, pos, h => by
    by_cases hp : pos < s.size
    · rw [faultFrom, if_pos hp, charB_dec]
      have hne := drop_ne s pos hp
      have hw := width_pos s pos hp
      have hmw := mark_width s pos
      have hrd := rune_dec _ hne
      have hth := fun hx => txt_head (l := s.data.toList.drop pos) hx hne
      rw [Lib.decodeL_drop] at hrd hth
      rw [List.drop_drop] at hrd hth
      have ih := fault_txt s f (pos + (Utf8.decode s pos).2) (by omega)
      generalize Utf8.decode s pos = d at *
      by_cases hb : d.1 = 65533 ∧ d.2 = 1
      · have e : (((d.1 : Nat) : Int) == 65533 && !markAt s pos) = true := by rw [hmw hb.1, hb.1, hb.2]; rfl
        rw [if_pos e]
        exact ⟨fun h => absurd h (by simp), fun h => absurd hb (hth h).2.2.2⟩
      · have e : ¬ (((d.1 : Nat) : Int) == 65533 && !markAt s pos) = true := by
          intro h
          rw [Bool.and_eq_true] at h
          have h1 : d.1 = 65533 := by have := beq_iff_eq.1 h.1; omega
          rw [hmw h1] at h
          exact hb ⟨h1, beq_iff_eq.1 h.2⟩
        rw [if_neg e]
        obtain ⟨ho, heq⟩ := hrd hb
        by_cases hc : charR ((d.1 : Nat) : Int) = true
        · rw [if_pos hc, ih]
          exact ⟨fun h => by rw [heq]; exact txt_cons hc h, fun h => (hth h).2.2.1⟩
        · rw [if_neg hc]
          exact ⟨fun h => absurd h (by simp), fun h => absurd (hth h).1 hc⟩
    · rw [faultFrom, if_neg hp, drop_nil s pos hp]
      exact ⟨fun _ => txt_nil, fun _ => rfl⟩
end Go.Proofs.YtiembljlhmgpjaaGreatDoor
/- Line ends, byte by byte: plain lemmas. -/
namespace Go.Proofs.YtiembljlhmgpjaaGreatDoor
open Go.RowKit
theorem prefix_index {old : List UInt8} {c : UInt8} {t : List UInt8} (h : old.isPrefixOf (c :: t) = true) : Lib.index (c :: t) old = ((0 : Nat) : Int) := by
  unfold Lib.index; rw [if_pos h]; rfl
theorem replaceK_miss (old new : List UInt8) (k : Nat) (c : UInt8) (t : List UInt8) (h : old.isPrefixOf (c :: t) = false) :
    Lib.replaceK old new k (c :: t) = c :: Lib.replaceK old new k t := by
  cases k with
  | zero => rfl
  | succ k =>
    have hc : Lib.index (c :: t) old = if Lib.index t old == -1 then -1 else Lib.index t old + 1 := by
      rw [Lib.index, if_neg (by rw [h]; decide)]
    by_cases hm : Lib.index t old = -1
    · rw [Lib.replaceK, hc, hm, Lib.replaceK, hm]; rfl
    · have hg := Lib.index_ge t old
      obtain ⟨i, hi⟩ : ∃ i : Nat, Lib.index t old = i := ⟨(Lib.index t old).toNat, by omega⟩
      have hc' : Lib.index (c :: t) old = ((i + 1 : Nat) : Int) := by
        rw [hc, if_neg (by simpa using hm), hi]; omega
      rw [Lib.replaceK_hit old new k _ _ hc', Lib.replaceK_hit old new k _ _ hi]
      have e : i + 1 + old.length = (i + old.length) + 1 := by omega
      rw [e]
      rfl
theorem count_cons_miss (old : List UInt8) (ho : old ≠ []) (c : UInt8) (t : List UInt8) (h : old.isPrefixOf (c :: t) = false) : Lib.count (c :: t) old = Lib.count t old := by
  have hc : Lib.index (c :: t) old = if Lib.index t old == -1 then -1 else Lib.index t old + 1 := by
    rw [Lib.index, if_neg (by rw [h]; decide)]
  by_cases hm : Lib.index t old = -1
  · rw [Lib.count_miss hm, Lib.count_miss (by rw [hc, hm]; rfl)]
  · have hg := Lib.index_ge t old
    obtain ⟨i, hi⟩ : ∃ i : Nat, Lib.index t old = i := ⟨(Lib.index t old).toNat, by omega⟩
    have hc' : Lib.index (c :: t) old = ((i + 1 : Nat) : Int) := by
      rw [hc, if_neg (by simpa using hm), hi]; omega
    rw [Lib.count_hit ho hc', Lib.count_hit ho hi]
    have e : i + 1 + old.length = (i + old.length) + 1 := by omega
    rw [e]
    rfl
theorem count_cons_hit (old : List UInt8) (ho : old ≠ []) (t : List UInt8) : Lib.count (old ++ t) old = 1 + Lib.count t old := by
  have h : Lib.index (old ++ t) old = ((0 : Nat) : Int) := by
    cases old with
    | nil => exact absurd rfl ho
    | cons a l => exact prefix_index (List.isPrefixOf_iff_prefix.2 ⟨t, rfl⟩)
  rw [Lib.count_hit ho h]
  simp
theorem replaceK_pre (old new : List UInt8) (ho : old ≠ []) (k : Nat) (t : List UInt8) : Lib.replaceK old new (k + 1) (old ++ t) = new ++ Lib.replaceK old new k t := by
  have h : Lib.index (old ++ t) old = ((0 : Nat) : Int) := by
    cases old with
    | nil => exact absurd rfl ho
    | cons a l => exact prefix_index (List.isPrefixOf_iff_prefix.2 ⟨t, rfl⟩)
  rw [Lib.replaceK_hit old new k _ _ h]
  simp
theorem replaceAll_eq (s old new : List UInt8) (h : (old == new) = false) : Lib.replaceAll s old new = Lib.replaceK old new (Lib.count s old) s := by
  unfold Lib.replaceAll Lib.replace
  rw [if_neg (by rw [h]; decide)]
  congr 1
/-- Pairs of 13 and 10 become 10. -/
def pairs : List UInt8 → List UInt8
  | [] => []
  | [c] => [c]
  | c :: d :: t => if c = 13 ∧ d = 10 then 10 :: pairs t else c :: pairs (d :: t)
theorem pairs_eq : ∀ (n : Nat) (l : List UInt8), l.length ≤ n → Lib.replaceAll l [13, 10] [10] = pairs l
  | _, [], _ => by decide +kernel
  | _, [c], _ => by
    rw [replaceAll_eq _ _ _ (by decide), count_cons_miss _ (by decide) _ _ (by simp [List.isPrefixOf]), replaceK_miss _ _ _ _ _ (by simp [List.isPrefixOf])]
    rfl
  | 0, c :: d :: t, h => by simp at h
  | n + 1, c :: d :: t, h => by
    rw [replaceAll_eq _ _ _ (by decide), pairs]
    by_cases hc : c = 13 ∧ d = 10
    · obtain ⟨rfl, rfl⟩ := hc
      rw [if_pos ⟨rfl, rfl⟩, ← pairs_eq n t (by simp at h; omega), replaceAll_eq _ _ _ (by decide)]
      have e : (13 :: 10 :: t : List UInt8) = [13, 10] ++ t := rfl
      rw [e, count_cons_hit _ (by decide), Nat.add_comm, replaceK_pre _ _ (by decide)]
      rfl
    · have hp : ([13, 10] : List UInt8).isPrefixOf (c :: d :: t) = false := by
        simp only [List.isPrefixOf, Bool.and_true]
        by_cases h1 : c = 13
        · by_cases h2 : d = 10
          · exact absurd ⟨h1, h2⟩ hc
          · have : ((10 : UInt8) == d) = false := by simpa using fun h => h2 h.symm
            rw [this, Bool.and_false]
        · have : ((13 : UInt8) == c) = false := by simpa using fun h => h1 h.symm
          rw [this, Bool.false_and]
      rw [if_neg hc, count_cons_miss _ (by decide) _ _ hp, replaceK_miss _ _ _ _ _ hp, ← replaceAll_eq _ _ _ (by decide), pairs_eq n (d :: t) (by simp at h ⊢; omega)]
def single (c : UInt8) : UInt8 := if c = 13 then 10 else c
theorem singles_eq (l : List UInt8) : Lib.replaceAll l [13] [10] = l.map single := by
  induction l with
  | nil => decide +kernel
  | cons c t ih =>
    rw [replaceAll_eq _ _ _ (by decide)] at ih ⊢
    by_cases hc : c = 13
    · subst hc
      have e : (13 :: t : List UInt8) = [13] ++ t := rfl
      rw [e, count_cons_hit _ (by decide), Nat.add_comm, replaceK_pre _ _ (by decide), ih]
      rfl
    · have hp : ([13] : List UInt8).isPrefixOf (c :: t) = false := by
        simp only [List.isPrefixOf, Bool.and_true]
        simpa using fun h => hc h.symm
      rw [count_cons_miss _ (by decide) _ _ hp, replaceK_miss _ _ _ _ _ hp, ih]
      simp [single, hc]
/-- Line ends, byte by byte. -/
def endsR : List UInt8 → List UInt8
  | [] => []
  | [c] => [single c]
  | c :: d :: t => if c = 13 ∧ d = 10 then endsR (d :: t) else single c :: endsR (d :: t)
theorem endsR_hit (t : List UInt8) : endsR (13 :: 10 :: t) = 10 :: endsR t := by
  rw [endsR, if_pos ⟨rfl, rfl⟩]
  cases t with
  | nil => rfl
  | cons a u => rw [endsR, if_neg (fun h => absurd h.1 (by decide))]; rfl
theorem endsL_eq : ∀ (n : Nat) (l : List UInt8), l.length ≤ n → endsL l = endsR l := by
  have key : ∀ (n : Nat) (l : List UInt8), l.length ≤ n → (pairs l).map single = endsR l := by
    intro n
    induction n with
    | zero => intro l h; cases l <;> simp at h; rfl
    | succ n ih =>
      intro l h
      match l, h with
      | [], _ => rfl
      | [c], _ => rfl
      | c :: d :: t, h =>
        by_cases hc : c = 13 ∧ d = 10
        · obtain ⟨rfl, rfl⟩ := hc
          rw [endsR_hit, pairs, if_pos ⟨rfl, rfl⟩, ← ih t (by simp at h; omega)]
          rfl
        · rw [endsR, if_neg hc, pairs, if_neg hc, ← ih (d :: t) (by simp at h ⊢; omega)]
          rfl
  intro n l h
  unfold endsL
  rw [pairs_eq n l h, singles_eq, key n l h]
theorem endsR_cons (c : UInt8) (t : List UInt8) (hc : c ≠ 13) : endsR (c :: t) = c :: endsR t := by
  cases t with
  | nil => simp [endsR, single, hc]
  | cons d u => rw [endsR, if_neg (fun h => hc h.1)]; simp [single, hc]
theorem endsR_app : ∀ (a b : List UInt8), (∀ c ∈ a, c ≠ 13) → endsR (a ++ b) = a ++ endsR b
  | [], _, _ => rfl
  | c :: a, b, h => by
    rw [List.cons_append, endsR_cons c _ (h c (by simp)), endsR_app a b (fun x hx => h x (by simp [hx]))]
    rfl
end Go.Proofs.YtiembljlhmgpjaaGreatDoor
/- Texts, as characters one behind the other, in UTF-8 and UTF-16: plain lemmas. -/
namespace Go.Proofs.YtiembljlhmgpjaaGreatDoor
open Go.RowKit
theorem txt_first {l : List UInt8} (h : Txt l) (a b : UInt8) (ha : 248 ≤ a.toNat) : Lib.hasPrefix l [a, b] = false := by
  obtain ⟨rs, h1, rfl⟩ := h
  cases rs with
  | nil => rfl
  | cons r rs =>
    obtain ⟨c, t, e, hc, _⟩ := runeB_first (charR_ok (h1 r (by simp)))
    show Lib.hasPrefix (runeB r ++ rs.flatMap runeB) [a, b] = false
    rw [e]
    unfold Lib.hasPrefix
    simp only [List.cons_append, List.isPrefixOf, Bool.and_eq_false_imp]
    intro hh
    have := beq_iff_eq.1 hh
    subst this
    omega
theorem wide_txt (s : ByteArray) : ∀ (rs : List Nat) f pos, s.size < pos + f → s.data.toList.drop pos = rs.flatMap runeB → (∀ r ∈ rs, charR (r : Int) = true) → wideFrom s f pos = rs.flatMap wideR
  | [], f, pos, hf, hd, _ => by
    have hp : ¬ pos < s.size := fun h => drop_ne s pos h hd
    cases f with
    | zero => rfl
    | succ f => rw [wideFrom, if_neg hp]; rfl
  | r :: rs, f, pos, hf, hd, h => by
    have hr := charR_ok (h r (by simp))
    obtain ⟨c, t, e, _, _⟩ := runeB_first hr
    have hp : pos < s.size := by
      by_cases hp : pos < s.size
      · exact hp
      · rw [drop_nil s pos hp] at hd
        have : (r :: rs).flatMap runeB = runeB r ++ rs.flatMap runeB := rfl
        rw [this, e] at hd
        cases hd
    have hdec : Utf8.decode s pos = (r, (runeB r).length) := by
      rw [← Lib.decodeL_drop, hd]
      exact dec_rune r hr _
    cases f with
    | zero => omega
    | succ f =>
      rw [wideFrom, if_pos hp, hdec]
      have hlen : 1 ≤ (runeB r).length := by rw [e]; simp
      have := wide_txt s rs f (pos + (runeB r).length) (by omega) (by rw [← List.drop_drop, hd]; exact List.drop_left) (fun x hx => h x (by simp [hx]))
      simp only
      rw [this]
      rfl
theorem get_drop (s : ByteArray) (pos k : Nat) : s.get! (pos + k) = (s.data.toList.drop pos).getD k 0 := by
  rw [Lib.getD_dropU, Lib.getD_get!']
theorem unit_read (a : Nat) (h : a < 65536) : (UInt8.ofNat (a / 256)).toNat * 256 + (UInt8.ofNat (a % 256)).toNat = a := by
  rw [u8_nat (by omega), u8_nat (by omega)]; omega
theorem wideAt_read (s : ByteArray) (pos r : Nat) (t : List UInt8) (ho : okR r) (hd : s.data.toList.drop pos = wideR r ++ t) : wideAt s pos false = (r, (wideR r).length) ∧ pos < s.size := by
  have hl := congrArg List.length hd
  rw [List.length_drop, List.length_append] at hl
  have hl' : s.data.toList.length = s.size := rfl
  unfold okR at ho
  have g0 := get_drop s pos 0
  have g1 := get_drop s pos 1
  have g2 := get_drop s pos 2
  have g3 := get_drop s pos 3
  rw [Nat.add_zero] at g0
  rw [hd] at g0 g1 g2 g3
  by_cases h1 : r < 65536
  · have e : wideR r = unitB r := by unfold wideR; rw [if_pos h1]
    rw [e] at hl g0 g1 g2 g3 ⊢
    unfold unitB at hl g0 g1 ⊢
    simp only [List.cons_append, List.nil_append, List.getD_cons_zero, List.getD_cons_succ, List.length_cons, List.length_nil] at hl g0 g1 ⊢
    have hu : unitN s pos false = r := by
      unfold unitN; rw [if_neg (by decide), g0, g1]; exact unit_read r h1
    refine ⟨?_, by omega⟩
    unfold wideAt
    rw [hu, if_neg (by omega), if_pos (by simp; omega)]
  · have e : wideR r = unitB (55296 + (r - 65536) / 1024) ++ unitB (56320 + (r - 65536) % 1024) := by unfold wideR; rw [if_neg h1]
    rw [e] at hl g0 g1 g2 g3 ⊢
    unfold unitB at hl g0 g1 g2 g3 ⊢
    simp only [List.cons_append, List.nil_append, List.getD_cons_zero, List.getD_cons_succ, List.length_cons, List.length_nil] at hl g0 g1 g2 g3 ⊢
    have hu : unitN s pos false = 55296 + (r - 65536) / 1024 := by
      unfold unitN; rw [if_neg (by decide), g0, g1]; exact unit_read _ (by omega)
    have hv : unitN s (pos + 2) false = 56320 + (r - 65536) % 1024 := by
      unfold unitN; rw [if_neg (by decide), g2, show pos + 2 + 1 = pos + 3 from rfl, g3]; exact unit_read _ (by omega)
    refine ⟨?_, by omega⟩
    unfold wideAt
    rw [hu, hv, if_neg (by omega), if_neg (by simp; omega), if_neg (by omega), if_neg (by simp [pairB]; omega)]
    apply Prod.ext <;> simp only <;> omega
theorem dec_back (s : ByteArray) : ∀ (rs : List Nat) f pos acc, s.size < pos + f → s.data.toList.drop pos = rs.flatMap wideR → (∀ r ∈ rs, charR (r : Int) = true) → decFrom s false f pos acc = (acc ++ rs.flatMap runeB, 0, 0)
  | [], f, pos, acc, hf, hd, _ => by
    have hp : ¬ pos < s.size := fun h => drop_ne s pos h hd
    cases f with
    | zero => simp [decFrom]
    | succ f => rw [decFrom, if_neg hp]; simp
  | r :: rs, f, pos, acc, hf, hd, h => by
    have hr := h r (by simp)
    have e : (r :: rs).flatMap wideR = wideR r ++ rs.flatMap wideR := rfl
    rw [e] at hd
    obtain ⟨hw, hp⟩ := wideAt_read s pos r _ (charR_ok hr) hd
    have hlen : 2 ≤ (wideR r).length := by unfold wideR unitB; split <;> simp
    cases f with
    | zero => omega
    | succ f =>
      have hcb : charB ((r : Nat) : Int) = true := by rw [charB_eq _ (by have := charR_ok hr; unfold okR at this; omega)]; exact hr
      rw [decFrom, if_pos hp, hw]
      simp only
      rw [if_neg (by omega), if_neg (by rw [hcb]; decide)]
      rw [dec_back s rs f _ _ (by omega) (by rw [← List.drop_drop, hd]; exact List.drop_left) (fun x hx => h x (by simp [hx]))]
      simp [List.append_assoc]
end Go.Proofs.YtiembljlhmgpjaaGreatDoor
