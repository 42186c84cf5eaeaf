/- Several texts, laid as one. -/
import Derived.Test.YthkkfldmoflfaaaGreatDoorGaf
import Derived.Test.YthkkfldmoflfaaaGreatDoorGac
/- What the program takes for a fault is what the reference takes for one: plain lemmas. -/
namespace Go.Proofs.YthkkfldmoflfaaaGreatDoor
open Go.RowKit
theorem mark_iff (s : ByteArray) (pos : Nat) : markAt s pos = true ↔ pos + 2 < s.size ∧ (s.get! pos).toNat = 239 ∧ (s.get! (pos + 1)).toNat = 191 ∧ (s.get! (pos + 2)).toNat = 189 := by
  have hl : s.data.toList.length = s.size := rfl
  unfold markAt Lib.hasPrefix
  rw [List.isPrefixOf_iff_prefix, List.prefix_iff_eq_take]
  constructor
  · intro h
    have h3 : pos + 2 < s.size := by
      have := congrArg List.length h
      simp only [List.length_take, List.length_drop, List.length_cons, List.length_nil, hl] at this
      omega
    have g : ∀ k (hk : k < 3), (s.data.toList[pos + k]'(by omega)) = [239, 191, 189][k]'hk := fun k hk => by
      have := congrArg (·[k]?) h
      simp only [List.getElem?_take, List.getElem?_drop, List.length_cons, List.length_nil, hk, if_true] at this
      rw [List.getElem?_eq_getElem (by simpa using hk), List.getElem?_eq_getElem (by omega)] at this
      exact (Option.some.inj this).symm
    refine ⟨h3, ?_, ?_, ?_⟩
    · rw [get_data s pos (by omega)]; have := g 0 (by decide); simp only [Nat.add_zero] at this; rw [this]; rfl
    · rw [get_data s (pos + 1) (by omega), g 1 (by decide)]; rfl
    · rw [get_data s (pos + 2) (by omega), g 2 (by decide)]; rfl
  · rintro ⟨h3, h0, h1, h2⟩
    rw [get_data s pos (by omega)] at h0
    rw [get_data s (pos + 1) (by omega)] at h1
    rw [get_data s (pos + 2) (by omega)] at h2
    rw [List.drop_eq_getElem_cons (by omega), List.drop_eq_getElem_cons (by omega), List.drop_eq_getElem_cons (by omega)]
    simp only [List.length_cons, List.length_nil, List.take_succ_cons, List.take_zero]
    rw [UInt8.toNat_inj.1 (show _ = (239 : UInt8).toNat from h0), UInt8.toNat_inj.1 (show _ = (191 : UInt8).toNat from h1), UInt8.toNat_inj.1 (show _ = (189 : UInt8).toNat from h2)]
/-- The replacement character is decoded of its own three bytes, or of one byte that is none. -/
theorem mark_width (s : ByteArray) (pos : Nat) (h : (Utf8.decode s pos).1 = 65533) : (!markAt s pos) = ((Utf8.decode s pos).2 == 1) := by
  have b0 := (s.get! pos).toNat_lt
  have b1 := (s.get! (pos + 1)).toNat_lt
  have b2 := (s.get! (pos + 2)).toNat_lt
  have hm := mark_iff s pos
  revert h
  rw [Lib.decode_at]
  intro h
  generalize (s.get! pos).toNat = x0 at *
  generalize (s.get! (pos + 1)).toNat = x1 at *
  generalize (s.get! (pos + 2)).toNat = x2 at *
  generalize (s.get! (pos + 3)).toNat = x3 at *
  have key : ((Lib.decodeN (s.size - pos) x0 x1 x2 x3).2 = 1 ∧ ¬ (pos + 2 < s.size ∧ x0 = 239 ∧ x1 = 191 ∧ x2 = 189)) ∨ ((Lib.decodeN (s.size - pos) x0 x1 x2 x3).2 ≠ 1 ∧ (pos + 2 < s.size ∧ x0 = 239 ∧ x1 = 191 ∧ x2 = 189)) := by
    revert h
    unfold Lib.decodeN
    repeat' split
    all_goals (intro h; first | (exfalso; simp only at h; omega) | (left; refine ⟨rfl, ?_⟩; omega) | (right; refine ⟨by simp only; omega, ?_⟩; simp only at h; omega))
  rcases key with ⟨k1, k2⟩ | ⟨k1, k2⟩
  · rw [k1]
    cases hc : markAt s pos
    · rfl
    · exact absurd (hm.1 hc) k2
  · rw [hm.2 k2]
    simp [k1]
theorem text_eq (s : ByteArray) : ∀ f pos, ((faultFrom s f pos).1 == 0) = decide ((badFrom s f pos).1 < 0)
  | 0, pos => rfl
  | f + 1, pos => by
    have hd := decode_le s pos
    unfold faultFrom badFrom
    by_cases hp : pos < s.size
    · rw [if_pos hp, if_pos hp]
      by_cases h : (Utf8.decode s pos).1 = 65533
      · rw [mark_width s pos h, h]
        by_cases hw : (Utf8.decode s pos).2 = 1
        · simp [hw]
        · have ih := text_eq s f (pos + (Utf8.decode s pos).2)
          have hc : charB ((65533 : Nat) : Int) = true := by decide +kernel
          have hc' : charR ((65533 : Nat) : Int) = true := by decide +kernel
          have hw' : (((Utf8.decode s pos).2 : Int) == 1) = false := by simp; omega
          have hw'' : ((Utf8.decode s pos).2 == 1) = false := by simpa using hw
          simp only [hc, hc', hw', hw'', Bool.and_false, if_true, Bool.false_eq_true, if_false]
          exact ih
      · have h' : (((Utf8.decode s pos).1 : Int) == 65533) = false := by simp; omega
        rw [charB_eq _ (by omega)]
        simp only [h', Bool.false_and, Bool.false_eq_true, if_false]
        cases hc : charR (Utf8.decode s pos).1
        · simp
        · simpa using text_eq s f (pos + (Utf8.decode s pos).2)
    · rw [if_neg hp, if_neg hp]; rfl
end Go.Proofs.YthkkfldmoflfaaaGreatDoor
/- Texts, as characters one behind the other, in UTF-8: plain lemmas. -/
namespace Go.Proofs.YthkkfldmoflfaaaGreatDoor
open Go.RowKit
theorem charB_dec (s : ByteArray) (pos : Nat) : charB ((Utf8.decode s pos).1 : Nat) = charR ((Utf8.decode s pos).1 : Nat) :=
  charB_eq _ (by have := rune_le s pos; omega)
theorem txt_nil : Txt [] := ⟨[], by simp, rfl⟩
theorem txt_cons {r : Nat} {t : List UInt8} (hr : charR (r : Int) = true) (h : Txt t) : Txt (runeB r ++ t) := by
  obtain ⟨rs, h1, rfl⟩ := h
  exact ⟨r :: rs, fun x hx => by rcases List.mem_cons.1 hx with rfl | hx; exact hr; exact h1 x hx, rfl⟩
theorem txt_head {l : List UInt8} (h : Txt l) (hl : l ≠ []) : charR ((Lib.decodeL l).1 : Nat) = true ∧ l = runeB (Lib.decodeL l).1 ++ l.drop (Lib.decodeL l).2 ∧ Txt (l.drop (Lib.decodeL l).2) ∧ ¬ ((Lib.decodeL l).1 = 65533 ∧ (Lib.decodeL l).2 = 1) := by
  obtain ⟨rs, h1, rfl⟩ := h
  cases rs with
  | nil => exact absurd rfl hl
  | cons r rs =>
    have hr := h1 r (by simp)
    have e : (r :: rs).flatMap runeB = runeB r ++ rs.flatMap runeB := rfl
    rw [e, dec_rune r (charR_ok hr)]
    simp only [List.drop_left]
    refine ⟨hr, trivial, ⟨rs, fun x hx => h1 x (by simp [hx]), rfl⟩, ?_⟩
    rintro ⟨rfl, hh⟩
    exact absurd hh (by decide +kernel)
theorem drop_nil (s : ByteArray) (pos : Nat) (h : ¬ pos < s.size) : s.data.toList.drop pos = [] := List.drop_eq_nil_of_le (by show s.size ≤ pos; omega)
theorem drop_ne (s : ByteArray) (pos : Nat) (h : pos < s.size) : s.data.toList.drop pos ≠ [] := by
  intro e
  have := congrArg List.length e
  rw [List.length_drop] at this
  have h' : s.data.toList.length = s.size := rfl
  simp at this
  omega
theorem fault_txt (s : ByteArray) : ∀ f pos, s.size < pos + f → ((faultFrom s f pos).1 = 0 ↔ Txt (s.data.toList.drop pos))
  | 0, pos, h => by
    rw [drop_nil s pos (by omega)]
    exact ⟨fun _ => txt_nil, fun _ => rfl⟩
  | f + 1, pos, h => by
    by_cases hp : pos < s.size
    · rw [faultFrom, if_pos hp, charB_dec]
      have hne := drop_ne s pos hp
      have hw := width_pos s pos hp
      have hmw := mark_width s pos
      have hrd := rune_dec _ hne
      have hth := fun hx => txt_head (l := s.data.toList.drop pos) hx hne
      rw [Lib.decodeL_drop] at hrd hth
      rw [List.drop_drop] at hrd hth
      have ih := fault_txt s f (pos + (Utf8.decode s pos).2) (by omega)
      generalize Utf8.decode s pos = d at *
      by_cases hb : d.1 = 65533 ∧ d.2 = 1
      · have e : (((d.1 : Nat) : Int) == 65533 && !markAt s pos) = true := by rw [hmw hb.1, hb.1, hb.2]; rfl
        rw [if_pos e]
        exact ⟨fun h => absurd h (by simp), fun h => absurd hb (hth h).2.2.2⟩
      · have e : ¬ (((d.1 : Nat) : Int) == 65533 && !markAt s pos) = true := by
          intro h
          rw [Bool.and_eq_true] at h
          have h1 : d.1 = 65533 := by have := beq_iff_eq.1 h.1; omega
          rw [hmw h1] at h
          exact hb ⟨h1, beq_iff_eq.1 h.2⟩
        rw [if_neg e]
        obtain ⟨ho, heq⟩ := hrd hb
        by_cases hc : charR ((d.1 : Nat) : Int) = true
        · rw [if_pos hc, ih]
          exact ⟨fun h => by rw [heq]; exact txt_cons hc h, fun h => (hth h).2.2.1⟩
        · rw [if_neg hc]
          exact ⟨fun h => absurd h (by simp), fun h => absurd (hth h).1 hc⟩
    · rw [faultFrom, if_neg hp, drop_nil s pos hp]
      exact ⟨fun _ => txt_nil, fun _ => rfl⟩
end Go.Proofs.YthkkfldmoflfaaaGreatDoor
/- Tokens of expressions, over lists of characters: what xplex's functions tell, in plain terms. -/
namespace Go.Proofs.YthkkfldmoflfaaaGreatDoor
def begC (c : Nat) : Bool := inL (c : Int) beginL
def goC (c : Nat) : Bool := inL (c : Int) beginL || inL (c : Int) onL
def blankC (c : Nat) : Bool := c == 9 || c == 10 || c == 13 || c == 32
def digC (c : Nat) : Bool := decide (48 ≤ c) && decide (c ≤ 57)
/-- The name that characters begin with. -/
def nameA : List Nat → List Nat
  | [] => []
  | c :: t => if begC c then c :: t.takeWhile goC else []
def isNm (l : List Nat) : Bool := !l.isEmpty && nameA l == l
/-- Does a list begin with a character, and what stands behind it? -/
def heads (c : Nat) (l : List Nat) : Bool := l.head? == some c
def qnameA (l : List Nat) : List Nat :=
  if !(nameA l).isEmpty && (heads 58 (l.drop (nameA l).length) && !(nameA (l.drop (nameA l).length).tail).isEmpty) then nameA l ++ 58 :: nameA (l.drop (nameA l).length).tail else nameA l
def wordA (l : List Nat) : List Nat :=
  if heads 42 l then [42] else
  if isNm (qnameA l) && [58, 42].isPrefixOf (l.drop (qnameA l).length) then qnameA l ++ [58, 42] else qnameA l
def digsA (l : List Nat) : List Nat := l.takeWhile digC
def numA (l : List Nat) : List Nat :=
  if heads 46 (l.drop (digsA l).length) && !(digsA (l.drop (digsA l).length).tail).isEmpty then digsA l ++ 46 :: digsA (l.drop (digsA l).length).tail else digsA l
/-- What stands within the string that characters begin with, and its sign. -/
def strAt (q : Nat) (l : List Nat) : Option (List Nat) :=
  if heads q l && l.tail.contains q then some (l.tail.takeWhile (· != q)) else none
def varA (l : List Nat) : Option (List Nat) :=
  if heads 36 l && !(qnameA l.tail).isEmpty then some (qnameA l.tail) else none
/-- Is it a QName? -/
def isQ (w : List Nat) : Bool :=
  if w.contains 58 then isNm (w.takeWhile (· != 58)) && isNm (w.dropWhile (· != 58)).tail else isNm w
def opWord (w : List Nat) : Bool := w == [97, 110, 100] || w == [111, 114] || w == [109, 111, 100] || w == [100, 105, 118] || w == [42]
def typeWord (w : List Nat) : Bool := w == [99, 111, 109, 109, 101, 110, 116] || w == [116, 101, 120, 116] ||
  w == [112, 114, 111, 99, 101, 115, 115, 105, 110, 103, 45, 105, 110, 115, 116, 114, 117, 99, 116, 105, 111, 110] || w == [110, 111, 100, 101]
/-- What a word is: its kind; none: it can't stand there. pl: an operator is asked for there. -/
def wordK (w b : List Nat) (pl : Bool) : Option Nat :=
  if pl then (if opWord w then some 8 else none) else
  if heads 40 (b.dropWhile blankC) && typeWord w then some 5 else
  if heads 40 (b.dropWhile blankC) && isQ w then some 4 else
  if [58, 58].isPrefixOf (b.dropWhile blankC) && isNm w then some 6 else some 3
def signL : List (Nat × List Nat) := [(8, [47, 47]), (8, [33, 61]), (8, [60, 61]), (8, [62, 61]), (9, [58, 58]), (9, [46, 46]), (8, [47]), (8, [124]), (8, [43]), (8, [45]), (8, [61]), (8, [60]), (8, [62]),
  (9, [40]), (9, [41]), (9, [91]), (9, [93]), (9, [46]), (9, [64]), (9, [44])]
def signA (l : List Nat) : Option (Nat × List Nat) := signL.find? (fun x => x.2.isPrefixOf l)
/-- A token: its kind, its text, and the characters that it takes. -/
structure Tok where
  kind : Nat
  text : List Nat
  raw : List Nat
  deriving DecidableEq
def tokA (l : List Nat) (pl : Bool) : Option Tok :=
  if !(numA l).isEmpty then some ⟨1, numA l, numA l⟩ else
  match strAt 34 l with
  | some t => some ⟨2, t, 34 :: t ++ [34]⟩
  | none => match strAt 39 l with
    | some t => some ⟨2, t, 39 :: t ++ [39]⟩
    | none => match varA l with
      | some t => some ⟨7, t, 36 :: t⟩
      | none => if !(wordA l).isEmpty then (wordK (wordA l) (l.drop (wordA l).length) pl).map (fun k => ⟨k, wordA l, wordA l⟩)
        else (signA l).map (fun x => ⟨x.1, x.2, x.2⟩)
/-- Is an operator asked for behind a token? -/
def behindOp (t : Tok) : Bool := !(t.kind == 8 || (t.kind == 9 && (t.text == [64] || t.text == [58, 58] || t.text == [40] || t.text == [91] || t.text == [44])))
def plOf (acc : List (Tok × Nat)) : Bool := match acc.getLast? with | none => false | some t => behindOp t.1
/-- The tokens from a place on, behind blanks: all of them, or the place of what is none. n: how many bytes a list of characters has. -/
def scanA (n : List Nat → Nat) : Nat → List (Tok × Nat) → List Nat → List Nat → Except Nat (List (Tok × Nat))
  | 0, acc, _, _ => .ok acc
  | f + 1, acc, pre, l =>
    if (l.dropWhile blankC).isEmpty then .ok acc else
    match tokA (l.dropWhile blankC) (plOf acc) with
    | none => .error (n (pre ++ l.takeWhile blankC))
    | some t => scanA n f (acc ++ [(t, n (pre ++ l.takeWhile blankC))]) (pre ++ l.takeWhile blankC ++ t.raw) ((l.dropWhile blankC).drop t.raw.length)
end Go.Proofs.YthkkfldmoflfaaaGreatDoor
