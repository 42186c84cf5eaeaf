/- Several texts, laid as one. -/
import Derived.Test.YtiembljlhmgpjaaGreatDoorGac
import Derived.Lib.DecodeN
import Derived.Test.YtiembljlhmgpjaaGreatDoorGaa
import Derived.Lib.RuneCountTail
import Derived.Test.YtiembljlhmgpjaaGreatDoorGae
/- What is decoded of a text, byte by byte: plain lemmas. -/
namespace Go.Proofs.YtiembljlhmgpjaaGreatDoor
open Go.RowKit
theorem get_data (s : ByteArray) (i : Nat) (h : i < s.size) : s.get! i = s.data.toList[i]'h := by
  show s.data[i]! = _
  rw [getElem!_pos s.data i h]; rfl
/-- What is decoded at a place: a byte below 128 is itself, of width 1; bytes behind the first are 128 or above; none lies beyond the end. -/
theorem decode_bytes (s : ByteArray) (pos : Nat) (hp : pos < s.size) :
    ((s.get! pos).toNat < 128 → Utf8.decode s pos = ((s.get! pos).toNat, 1)) ∧ (∀ k, 1 ≤ k → k < (Utf8.decode s pos).2 → 128 ≤ (s.get! (pos + k)).toNat) ∧ pos + (Utf8.decode s pos).2 ≤ s.size := by
  rw [Lib.decode_at]
  generalize (s.get! pos).toNat = b0
  generalize h1 : (s.get! (pos + 1)).toNat = b1
  generalize h2 : (s.get! (pos + 2)).toNat = b2
  generalize h3 : (s.get! (pos + 3)).toNat = b3
  refine ⟨fun h => by unfold Lib.decodeN; rw [if_pos h], fun k hk hk' => ?_, ?_⟩
  · have key : (k = 1 ∧ 128 ≤ b1) ∨ (k = 2 ∧ 128 ≤ b2) ∨ (k = 3 ∧ 128 ≤ b3) := by
      revert hk'
      unfold Lib.decodeN
      repeat' split
      all_goals (intro hk'; simp only at hk'; omega)
    rcases key with ⟨rfl, h⟩ | ⟨rfl, h⟩ | ⟨rfl, h⟩
    · rw [h1]; exact h
    · rw [h2]; exact h
    · rw [h3]; exact h
  · unfold Lib.decodeN
    repeat' split
    all_goals (simp only; omega)
end Go.Proofs.YtiembljlhmgpjaaGreatDoor
/- Which characters may be: the reference's IsChar. -/
namespace Go.Proofs.YtiembljlhmgpjaaGreatDoor
open Go.RowKit
end Go.Proofs.YtiembljlhmgpjaaGreatDoor
/- The first byte that is no part of a character that may be: the reference's Bad and IsText. -/
namespace Go.Proofs.YtiembljlhmgpjaaGreatDoor
open Go.RowKit
/-- The first byte that is no part of a character that may be, from a place on; is it no part of a character at all? -/
def badFrom (s : ByteArray) : Nat → Nat → Int × Bool
  | 0, _ => (-1, false)
  | f + 1, pos => if pos < s.size then
      (if ((Utf8.decode s pos).1 : Int) == 65533 && ((Utf8.decode s pos).2 : Int) == 1 then ((pos : Int), true)
       else if charR (Utf8.decode s pos).1 then badFrom s f (pos + (Utf8.decode s pos).2) else ((pos : Int), false))
    else (-1, false)
theorem decodeRune_at (s : ByteArray) (pos : Nat) (w : World) (hp : pos < s.size) (hE : Env w) :
    Calls Tryz.prog 29 #[.string (s.extract pos s.size)] w fun e w' => e = .returned (.tuple #[.int .i32 (Utf8.decode s pos).1, .int .i64 (Utf8.decode s pos).2]) ∧ Below w.heap.size w w' := by
  have e : Lib.decodeGo (s.extract pos s.size) = Utf8.decode s pos := by
    unfold Lib.decodeGo
    rw [if_neg (by rw [ByteArray.size_extract]; omega), Lib.tail_decode, Nat.add_zero]
  have := Tryz.utf8_DecodeRuneInString (s.extract pos s.size) w hE.tabs
  rw [e] at this
  exact this
def textR (s : ByteArray) : Bool := decide ((badFrom s (s.size + 1) 0).1 < 0)
end Go.Proofs.YtiembljlhmgpjaaGreatDoor
/- What the program takes for a fault is what the reference takes for one: plain lemmas. -/
namespace Go.Proofs.YtiembljlhmgpjaaGreatDoor
open Go.RowKit
theorem mark_iff (s : ByteArray) (pos : Nat) : markAt s pos = true ↔ pos + 2 < s.size ∧ (s.get! pos).toNat = 239 ∧ (s.get! (pos + 1)).toNat = 191 ∧ (s.get! (pos + 2)).toNat = 189 := by
  have hl : s.data.toList.length = s.size := rfl
  unfold markAt Lib.hasPrefix
  rw [List.isPrefixOf_iff_prefix, List.prefix_iff_eq_take]
  constructor
  · intro h
    have h3 : pos + 2 < s.size := by
      have := congrArg List.length h
      simp only [List.length_take, List.length_drop, List.length_cons, List.length_nil, hl] at this
      omega
    have g : ∀ k (hk : k < 3), (s.data.toList[pos + k]'(by omega)) = [239, 191, 189][k]'hk := fun k hk => by
      have := congrArg (·[k]?) h
      simp only [List.getElem?_take, List.getElem?_drop, List.length_cons, List.length_nil, hk, if_true] at this
      rw [List.getElem?_eq_getElem (by simpa using hk), List.getElem?_eq_getElem (by omega)] at this
      exact (Option.some.inj this).symm
    refine ⟨h3, ?_, ?_, ?_⟩
    · rw [get_data s pos (by omega)]; have := g 0 (by decide); simp only [Nat.add_zero] at this; rw [this]; rfl
    · rw [get_data s (pos + 1) (by omega), g 1 (by decide)]; rfl
    · rw [get_data s (pos + 2) (by omega), g 2 (by decide)]; rfl
  · rintro ⟨h3, h0, h1, h2⟩
    rw [get_data s pos (by omega)] at h0
    rw [get_data s (pos + 1) (by omega)] at h1
    rw [get_data s (pos + 2) (by omega)] at h2
    rw [List.drop_eq_getElem_cons (by omega), List.drop_eq_getElem_cons (by omega), List.drop_eq_getElem_cons (by omega)]
    simp only [List.length_cons, List.length_nil, List.take_succ_cons, List.take_zero]
    rw [UInt8.toNat_inj.1 (show _ = (239 : UInt8).toNat from h0), UInt8.toNat_inj.1 (show _ = (191 : UInt8).toNat from h1), UInt8.toNat_inj.1 (show _ = (189 : UInt8).toNat from h2)]
/-- The replacement character is decoded of its own three bytes, or of one byte that is none. -/
theorem mark_width (s : ByteArray) (pos : Nat) (h : (Utf8.decode s pos).1 = 65533) : (!markAt s pos) = ((Utf8.decode s pos).2 == 1) := by
  have b0 := (s.get! pos).toNat_lt
  have b1 := (s.get! (pos + 1)).toNat_lt
  have b2 := (s.get! (pos + 2)).toNat_lt
  have hm := mark_iff s pos
  revert h
  rw [Lib.decode_at]
  intro h
  generalize (s.get! pos).toNat = x0 at *
  generalize (s.get! (pos + 1)).toNat = x1 at *
  generalize (s.get! (pos + 2)).toNat = x2 at *
  generalize (s.get! (pos + 3)).toNat = x3 at *
  have key : ((Lib.decodeN (s.size - pos) x0 x1 x2 x3).2 = 1 ∧ ¬ (pos + 2 < s.size ∧ x0 = 239 ∧ x1 = 191 ∧ x2 = 189)) ∨ ((Lib.decodeN (s.size - pos) x0 x1 x2 x3).2 ≠ 1 ∧ (pos + 2 < s.size ∧ x0 = 239 ∧ x1 = 191 ∧ x2 = 189)) := by
    revert h
    unfold Lib.decodeN
    repeat' split
    all_goals (intro h; first | (exfalso; simp only at h; omega) | (left; refine ⟨rfl, ?_⟩; omega) | (right; refine ⟨by simp only; omega, ?_⟩; simp only at h; omega))
  rcases key with ⟨k1, k2⟩ | ⟨k1, k2⟩
  · rw [k1]
    cases hc : markAt s pos
    · rfl
    · exact absurd (hm.1 hc) k2
  · rw [hm.2 k2]
    simp [k1]
theorem text_eq (s : ByteArray) : ∀ f pos, ((faultFrom s f pos).1 == 0) = decide ((badFrom s f pos).1 < 0)
  | 0, pos => rfl
  | f + 1, pos => by
    have hd := decode_le s pos
    unfold faultFrom badFrom
    by_cases hp : pos < s.size
    · rw [if_pos hp, if_pos hp]
      by_cases h : (Utf8.decode s pos).1 = 65533
      · rw [mark_width s pos h, h]
        by_cases hw : (Utf8.decode s pos).2 = 1
        · simp [hw]
        · have ih := text_eq s f (pos + (Utf8.decode s pos).2)
          have hc : charB ((65533 : Nat) : Int) = true := by decide +kernel
          have hc' : charR ((65533 : Nat) : Int) = true := by decide +kernel
          have hw' : (((Utf8.decode s pos).2 : Int) == 1) = false := by simp; omega
          have hw'' : ((Utf8.decode s pos).2 == 1) = false := by simpa using hw
          simp only [hc, hc', hw', hw'', Bool.and_false, if_true, Bool.false_eq_true, if_false]
          exact ih
      · have h' : (((Utf8.decode s pos).1 : Int) == 65533) = false := by simp; omega
        rw [charB_eq _ (by omega)]
        simp only [h', Bool.false_and, Bool.false_eq_true, if_false]
        cases hc : charR (Utf8.decode s pos).1
        · simp
        · simpa using text_eq s f (pos + (Utf8.decode s pos).2)
    · rw [if_neg hp, if_neg hp]; rfl
end Go.Proofs.YtiembljlhmgpjaaGreatDoor
/- Texts, as characters one behind the other, in UTF-8: plain lemmas. -/
namespace Go.Proofs.YtiembljlhmgpjaaGreatDoor
open Go.RowKit
theorem charB_dec (s : ByteArray) (pos : Nat) : charB ((Utf8.decode s pos).1 : Nat) = charR ((Utf8.decode s pos).1 : Nat) :=
  charB_eq _ (by have := rune_le s pos; omega)
theorem txt_nil : Txt [] := ⟨[], by simp, rfl⟩
theorem txt_cons {r : Nat} {t : List UInt8} (hr : charR (r : Int) = true) (h : Txt t) : Txt (runeB r ++ t) := by
  obtain ⟨rs, h1, rfl⟩ := h
  exact ⟨r :: rs, fun x hx => by rcases List.mem_cons.1 hx with rfl | hx; exact hr; exact h1 x hx, rfl⟩
theorem txt_head {l : List UInt8} (h : Txt l) (hl : l ≠ []) : charR ((Lib.decodeL l).1 : Nat) = true ∧ l = runeB (Lib.decodeL l).1 ++ l.drop (Lib.decodeL l).2 ∧ Txt (l.drop (Lib.decodeL l).2) ∧ ¬ ((Lib.decodeL l).1 = 65533 ∧ (Lib.decodeL l).2 = 1) := by
  obtain ⟨rs, h1, rfl⟩ := h
  cases rs with
  | nil => exact absurd rfl hl
  | cons r rs =>
    have hr := h1 r (by simp)
    have e : (r :: rs).flatMap runeB = runeB r ++ rs.flatMap runeB := rfl
    rw [e, dec_rune r (charR_ok hr)]
    simp only [List.drop_left]
    refine ⟨hr, trivial, ⟨rs, fun x hx => h1 x (by simp [hx]), rfl⟩, ?_⟩
    rintro ⟨rfl, hh⟩
    exact absurd hh (by decide +kernel)
theorem drop_nil (s : ByteArray) (pos : Nat) (h : ¬ pos < s.size) : s.data.toList.drop pos = [] := List.drop_eq_nil_of_le (by show s.size ≤ pos; omega)
theorem drop_ne (s : ByteArray) (pos : Nat) (h : pos < s.size) : s.data.toList.drop pos ≠ [] := by
  intro e
  have := congrArg List.length e
  rw [List.length_drop] at this
  have h' : s.data.toList.length = s.size := rfl
  simp at this
  omega
theorem fault_txt (s : ByteArray) : ∀ f pos, s.size < pos + f → ((faultFrom s f pos).1 = 0 ↔ Txt (s.data.toList.drop pos))
  | 0, pos, h => by
    rw [drop_nil s pos (by omega)]
    exact ⟨fun _ => txt_nil, fun _ => rfl⟩
  | f + 1, pos, h => by
    by_cases hp : pos < s.size
    · rw [faultFrom, if_pos hp, charB_dec]
      have hne := drop_ne s pos hp
      have hw := width_pos s pos hp
      have hmw := mark_width s pos
      have hrd := rune_dec _ hne
      have hth := fun hx => txt_head (l := s.data.toList.drop pos) hx hne
      rw [Lib.decodeL_drop] at hrd hth
      rw [List.drop_drop] at hrd hth
      have ih := fault_txt s f (pos + (Utf8.decode s pos).2) (by omega)
      generalize Utf8.decode s pos = d at *
      by_cases hb : d.1 = 65533 ∧ d.2 = 1
      · have e : (((d.1 : Nat) : Int) == 65533 && !markAt s pos) = true := by rw [hmw hb.1, hb.1, hb.2]; rfl
        rw [if_pos e]
        exact ⟨fun h => absurd h (by simp), fun h => absurd hb (hth h).2.2.2⟩
      · have e : ¬ (((d.1 : Nat) : Int) == 65533 && !markAt s pos) = true := by
          intro h
          rw [Bool.and_eq_true] at h
          have h1 : d.1 = 65533 := by have := beq_iff_eq.1 h.1; omega
          rw [hmw h1] at h
          exact hb ⟨h1, beq_iff_eq.1 h.2⟩
        rw [if_neg e]
        obtain ⟨ho, heq⟩ := hrd hb
        by_cases hc : charR ((d.1 : Nat) : Int) = true
        · rw [if_pos hc, ih]
          exact ⟨fun h => by rw [heq]; exact txt_cons hc h, fun h => (hth h).2.2.1⟩
        · rw [if_neg hc]
          exact ⟨fun h => absurd h (by simp), fun h => absurd (hth h).1 hc⟩
    · rw [faultFrom, if_neg hp, drop_nil s pos hp]
      exact ⟨fun _ => txt_nil, fun _ => rfl⟩
end Go.Proofs.YtiembljlhmgpjaaGreatDoor
/- Tokens of expressions, over lists of characters: what xplex's functions tell, in plain terms. -/
namespace Go.Proofs.YtiembljlhmgpjaaGreatDoor
def begC (c : Nat) : Bool := inL (c : Int) beginL
def goC (c : Nat) : Bool := inL (c : Int) beginL || inL (c : Int) onL
def blankC (c : Nat) : Bool := c == 9 || c == 10 || c == 13 || c == 32
def digC (c : Nat) : Bool := decide (48 ≤ c) && decide (c ≤ 57)
/-- The name that characters begin with. -/
def nameA : List Nat → List Nat
  | [] => []
  | c :: t => if begC c then c :: t.takeWhile goC else []
def isNm (l : List Nat) : Bool := !l.isEmpty && nameA l == l
/-- Does a list begin with a character, and what stands behind it? -/
def heads (c : Nat) (l : List Nat) : Bool := l.head? == some c
def qnameA (l : List Nat) : List Nat :=
  if !(nameA l).isEmpty && (heads 58 (l.drop (nameA l).length) && !(nameA (l.drop (nameA l).length).tail).isEmpty) then nameA l ++ 58 :: nameA (l.drop (nameA l).length).tail else nameA l
/-- Is it a QName? -/
def isQ (w : List Nat) : Bool :=
  if w.contains 58 then isNm (w.takeWhile (· != 58)) && isNm (w.dropWhile (· != 58)).tail else isNm w
/-- A token: its kind, its text, and the characters that it takes. -/
structure Tok where
  kind : Nat
  text : List Nat
  raw : List Nat
  deriving DecidableEq
end Go.Proofs.YtiembljlhmgpjaaGreatDoor
/- Texts as lists of characters: their bytes, what is cut off them, what is decoded at a place: plain lemmas. -/
namespace Go.Proofs.YtiembljlhmgpjaaGreatDoor
open Go.RowKit
/-- A list of characters as bytes, as a text. -/
def tx (l : List Nat) : List UInt8 := l.flatMap runeB
def T (l : List Nat) : ByteArray := ⟨(tx l).toArray⟩
def okL (l : List Nat) : Prop := ∀ c ∈ l, charR (c : Int) = true
theorem tx_nil : tx [] = [] := rfl
theorem tx_cons (c : Nat) (l : List Nat) : tx (c :: l) = runeB c ++ tx l := rfl
theorem tx_append (a b : List Nat) : tx (a ++ b) = tx a ++ tx b := by unfold tx; rw [List.flatMap_append]
theorem T_data (l : List Nat) : (T l).data.toList = tx l := by unfold T; simp
theorem T_toList (l : List Nat) : (T l).toList = tx l := by rw [toList_data, T_data]
theorem T_size (l : List Nat) : (T l).size = (tx l).length := rfl
theorem okL_left {a b : List Nat} (h : okL (a ++ b)) : okL a := fun c hc => h c (List.mem_append_left _ hc)
theorem okL_right {a b : List Nat} (h : okL (a ++ b)) : okL b := fun c hc => h c (List.mem_append_right _ hc)
theorem okL_tail {c : Nat} {l : List Nat} (h : okL (c :: l)) : okL l := fun x hx => h x (List.mem_cons_of_mem _ hx)
theorem okL_drop {l : List Nat} (h : okL l) (n : Nat) : okL (l.drop n) := fun c hc => h c (List.mem_of_mem_drop hc)
theorem okL_pre {a l : List Nat} (h : okL l) (hp : a <+: l) : okL a := fun c hc => h c (hp.subset hc)
theorem okL_app {a b : List Nat} (ha : okL a) (hb : okL b) : okL (a ++ b) := fun c hc => by
  rcases List.mem_append.1 hc with h | h
  · exact ha c h
  · exact hb c h
theorem runeB_pos {c : Nat} (h : charR (c : Int) = true) : 1 ≤ (runeB c).length := by
  obtain ⟨x, t, e, _⟩ := runeB_first (charR_ok h)
  rw [e]; simp
theorem tx_len_cons {c : Nat} {l : List Nat} (h : okL (c :: l)) : (tx l).length < (tx (c :: l)).length := by
  have := runeB_pos (h c (by simp))
  rw [tx_cons, List.length_append]; omega
theorem tx_len_ge : ∀ {l : List Nat}, okL l → l.length ≤ (tx l).length
  | [], _ => Nat.zero_le _
  | c :: l, h => by
    have h1 := tx_len_cons h
    have h2 := tx_len_ge (okL_tail h)
    simp only [List.length_cons]; omega
theorem tx_len_zero {l : List Nat} (h : okL l) (h0 : (tx l).length = 0) : l = [] := by
  have := tx_len_ge h
  exact List.length_eq_zero_iff.1 (by omega)
theorem tx_snoc (p : List Nat) (c : Nat) : (tx (p ++ [c])).length = (tx p).length + (runeB c).length := by
  rw [tx_append, List.length_append]; simp [tx]
theorem tx_len_app (p t : List Nat) : (tx (p ++ t)).length = (tx p).length + (tx t).length := by rw [tx_append, List.length_append]
/-- What is decoded at a character's place. -/
theorem dec_T (p : List Nat) (c : Nat) (t : List Nat) (h : charR (c : Int) = true) : Utf8.decode (T (p ++ c :: t)) (tx p).length = (c, (runeB c).length) ∧ (tx p).length < (T (p ++ c :: t)).size := by
  have hd : (T (p ++ c :: t)).data.toList.drop (tx p).length = runeB c ++ tx t := by
    rw [T_data, tx_append, List.drop_left, tx_cons]
  refine ⟨?_, ?_⟩
  · rw [← Lib.decodeL_drop, hd]
    exact dec_rune c (charR_ok h) _
  · have := runeB_pos h
    rw [T_size, tx_len_app, tx_cons, List.length_append]; omega
theorem dec_at {l p t : List Nat} {c : Nat} (e : l = p ++ c :: t) (h : okL l) : Utf8.decode (T l) (tx p).length = (c, (runeB c).length) ∧ (tx p).length < (T l).size ∧ charR (c : Int) = true ∧ 1 ≤ (runeB c).length := by
  subst e
  have hc := h c (by simp)
  exact ⟨(dec_T p c t hc).1, (dec_T p c t hc).2, hc, runeB_pos hc⟩
theorem end_at {l p : List Nat} (e : l = p ++ []) : ¬ (tx p).length < (T l).size := by
  subst e; rw [T_size, List.append_nil]; omega
theorem T_pre (p t : List Nat) : (T (p ++ t)).extract 0 (tx p).length = T p := by
  unfold T
  apply ByteArray.ext
  rw [ByteArray.data_extract, tx_append]
  simp
theorem pre_at {l p t : List Nat} (e : l = p ++ t) : (T l).extract 0 (tx p).length = T p := by subst e; exact T_pre p t
theorem T_suf (p t : List Nat) : (T (p ++ t)).extract (tx p).length (T (p ++ t)).size = T t := by
  rw [T_size]
  unfold T
  apply ByteArray.ext
  rw [ByteArray.data_extract, tx_append]
  simp
theorem suf_at {l p t : List Nat} (e : l = p ++ t) : (T l).extract (tx p).length (T l).size = T t := by subst e; exact T_suf p t
theorem T_app (a b : List Nat) : T a ++ T b = T (a ++ b) := by
  unfold T
  apply ByteArray.ext
  rw [ByteArray.data_append, tx_append]
  simp
theorem T_empty {l : List Nat} (h : okL l) : ((T l).toList = [] ↔ l = []) := by
  rw [T_toList]
  constructor
  · intro h0; exact tx_len_zero h (by rw [h0]; rfl)
  · rintro rfl; rfl
/-- A text that begins with signs below 128. -/
theorem pre_tx : ∀ (a l : List Nat), (∀ c ∈ a, c < 128) → okL l → Lib.hasPrefix (tx l) (a.map UInt8.ofNat) = a.isPrefixOf l
  | [], l, _, _ => by unfold Lib.hasPrefix; cases tx l <;> rfl
  | x :: a, [], _, _ => rfl
  | x :: a, c :: l, ha, hl => by
    have hx := ha x (by simp)
    have ih := pre_tx a l (fun c hc => ha c (by simp [hc])) (okL_tail hl)
    have hc := charR_ok (hl c (by simp))
    unfold Lib.hasPrefix at ih ⊢
    rw [tx_cons, List.map_cons]
    show _ = (x == c && a.isPrefixOf l)
    by_cases h1 : c < 128
    · rw [runeB_one h1, List.singleton_append]
      show (UInt8.ofNat x == UInt8.ofNat c && (a.map UInt8.ofNat).isPrefixOf (tx l)) = _
      rw [ih]
      congr 1
      rw [Bool.eq_iff_iff, beq_iff_eq, beq_iff_eq]
      constructor
      · intro e
        have := congrArg UInt8.toNat e
        rwa [u8_nat (by omega), u8_nat (by omega)] at this
      · rintro rfl; rfl
    · have hne : (x == c) = false := by simp; omega
      rw [hne, Bool.false_and]
      have key : ∀ (n : Nat) (r : List UInt8), 128 ≤ n → n < 256 → (UInt8.ofNat x :: a.map UInt8.ofNat).isPrefixOf (UInt8.ofNat n :: r) = false := by
        intro n r h2 h3
        show (UInt8.ofNat x == UInt8.ofNat n && _) = false
        have : (UInt8.ofNat x == UInt8.ofNat n) = false := by
          rw [beq_eq_false_iff_ne]
          intro e
          have := congrArg UInt8.toNat e
          rw [u8_nat (by omega), u8_nat h3] at this
          omega
        rw [this, Bool.false_and]
      unfold okR at hc
      by_cases h2 : c < 2048
      · rw [runeB_two (by omega) h2]; exact key _ _ (by omega) (by omega)
      · by_cases h3 : c < 65536
        · rw [runeB_three (by omega) h3 (by unfold okR; omega)]; exact key _ _ (by omega) (by omega)
        · rw [runeB_four (by omega) (by omega)]; exact key _ _ (by omega) (by omega)
theorem isPre_one (q : Nat) (l : List Nat) : [q].isPrefixOf l = heads q l := by
  cases l with
  | nil => rfl
  | cons c t =>
    show (q == c && [].isPrefixOf t) = _
    rw [show ([] : List Nat).isPrefixOf t = true by cases t <;> rfl, Bool.and_true]
    unfold heads
    simp only [List.head?_cons]
    rw [Bool.eq_iff_iff]; simp; exact eq_comm
theorem begC_eq (c : Nat) (h : charR (c : Int) = true) : beginB (c : Int) = begC c := beginB_eq _ (by have := charR_ok h; unfold okR at this; omega)
theorem goC_eq (c : Nat) (h : charR (c : Int) = true) : goesB (c : Int) = goC c := goesB_eq _ (by have := charR_ok h; unfold okR at this; omega)
theorem blankC_eq (c : Nat) : blankB (c : Int) = blankC c := by
  unfold blankB blankC
  rw [Bool.eq_iff_iff]
  simp
  omega
/-- A text of characters that may be is one of a list of such. -/
theorem txt_T {s : ByteArray} (h : Txt s.data.toList) : ∃ l, okL l ∧ s = T l := by
  obtain ⟨rs, h1, h2⟩ := h
  refine ⟨rs, h1, ?_⟩
  unfold T tx
  rw [← h2]
theorem T_txt {l : List Nat} (h : okL l) : Txt (T l).data.toList := ⟨l, h, T_data l⟩
end Go.Proofs.YtiembljlhmgpjaaGreatDoor
