/- Several texts, laid as one. -/
import Derived.Test.YtnmcambbpgoodaaGreatDoorGac
import Derived.Lib.DecodeN
import Derived.Test.YtnmcambbpgoodaaGreatDoorGaa
import Derived.Lib.RuneCountTail
import Derived.Test.YtnmcambbpgoodaaGreatDoorGae
/- What is decoded of a text, byte by byte: plain lemmas. -/
namespace Go.Proofs.YtnmcambbpgoodaaGreatDoor
open Go.RowKit
theorem get_data (s : ByteArray) (i : Nat) (h : i < s.size) : s.get! i = s.data.toList[i]'h := by
  show s.data[i]! = _
  rw [getElem!_pos s.data i h]; rfl
end Go.Proofs.YtnmcambbpgoodaaGreatDoor
/- Which characters may be: the reference's IsChar. -/
namespace Go.Proofs.YtnmcambbpgoodaaGreatDoor
open Go.RowKit
end Go.Proofs.YtnmcambbpgoodaaGreatDoor
/- The first byte that is no part of a character that may be: the reference's Bad and IsText. -/
namespace Go.Proofs.YtnmcambbpgoodaaGreatDoor
open Go.RowKit
end Go.Proofs.YtnmcambbpgoodaaGreatDoor
/- What the program takes for a fault is what the reference takes for one: plain lemmas. -/
namespace Go.Proofs.YtnmcambbpgoodaaGreatDoor
open Go.RowKit
theorem mark_iff (s : ByteArray) (pos : Nat) : markAt s pos = true ↔ pos + 2 < s.size ∧ (s.get! pos).toNat = 239 ∧ (s.get! (pos + 1)).toNat = 191 ∧ (s.get! (pos + 2)).toNat = 189 := by
  have hl : s.data.toList.length = s.size := rfl
  unfold markAt Lib.hasPrefix
  rw [List.isPrefixOf_iff_prefix, List.prefix_iff_eq_take]
  constructor
  · intro h
    have h3 : pos + 2 < s.size := by
      have := congrArg List.length h
      simp only [List.length_take, List.length_drop, List.length_cons, List.length_nil, hl] at this
      omega
    have g : ∀ k (hk : k < 3), (s.data.toList[pos + k]'(by omega)) = [239, 191, 189][k]'hk := fun k hk => by
      have := congrArg (·[k]?) h
      simp only [List.getElem?_take, List.getElem?_drop, List.length_cons, List.length_nil, hk, if_true] at this
      rw [List.getElem?_eq_getElem (by simpa using hk), List.getElem?_eq_getElem (by omega)] at this
      exact (Option.some.inj this).symm
    refine ⟨h3, ?_, ?_, ?_⟩
    · rw [get_data s pos (by omega)]; have := g 0 (by decide); simp only [Nat.add_zero] at this; rw [this]; rfl
    · rw [get_data s (pos + 1) (by omega), g 1 (by decide)]; rfl
    · rw [get_data s (pos + 2) (by omega), g 2 (by decide)]; rfl
  · rintro ⟨h3, h0, h1, h2⟩
    rw [get_data s pos (by omega)] at h0
    rw [get_data s (pos + 1) (by omega)] at h1
    rw [get_data s (pos + 2) (by omega)] at h2
    rw [List.drop_eq_getElem_cons (by omega), List.drop_eq_getElem_cons (by omega), List.drop_eq_getElem_cons (by omega)]
    simp only [List.length_cons, List.length_nil, List.take_succ_cons, List.take_zero]
    rw [UInt8.toNat_inj.1 (show _ = (239 : UInt8).toNat from h0), UInt8.toNat_inj.1 (show _ = (191 : UInt8).toNat from h1), UInt8.toNat_inj.1 (show _ = (189 : UInt8).toNat from h2)]
/-- The replacement character is decoded of its own three bytes, or of one byte that is none. -/
theorem mark_width (s : ByteArray) (pos : Nat) (h : (Utf8.decode s pos).1 = 65533) : (!markAt s pos) = ((Utf8.decode s pos).2 == 1) := by
  have b0 := (s.get! pos).toNat_lt
  have b1 := (s.get! (pos + 1)).toNat_lt
  have b2 := (s.get! (pos + 2)).toNat_lt
  have hm := mark_iff s pos
  revert h
  rw [Lib.decode_at]
  intro h
  generalize (s.get! pos).toNat = x0 at *
  generalize (s.get! (pos + 1)).toNat = x1 at *
  generalize (s.get! (pos + 2)).toNat = x2 at *
  generalize (s.get! (pos + 3)).toNat = x3 at *
  have key : ((Lib.decodeN (s.size - pos) x0 x1 x2 x3).2 = 1 ∧ ¬ (pos + 2 < s.size ∧ x0 = 239 ∧ x1 = 191 ∧ x2 = 189)) ∨ ((Lib.decodeN (s.size - pos) x0 x1 x2 x3).2 ≠ 1 ∧ (pos + 2 < s.size ∧ x0 = 239 ∧ x1 = 191 ∧ x2 = 189)) := by
    revert h
    unfold Lib.decodeN
    repeat' split
    all_goals (intro h; first | (exfalso; simp only at h; omega) | (left; refine ⟨rfl, ?_⟩; omega) | (right; refine ⟨by simp only; omega, ?_⟩; simp only at h; omega))
  rcases key with ⟨k1, k2⟩ | ⟨k1, k2⟩
  · rw [k1]
    cases hc : markAt s pos
    · rfl
    · exact absurd (hm.1 hc) k2
  · rw [hm.2 k2]
    simp [k1]
end Go.Proofs.YtnmcambbpgoodaaGreatDoor
/- Texts, as characters one behind the other, in UTF-8: plain lemmas. -/
namespace Go.Proofs.YtnmcambbpgoodaaGreatDoor
open Go.RowKit
theorem charB_dec (s : ByteArray) (pos : Nat) : charB ((Utf8.decode s pos).1 : Nat) = charR ((Utf8.decode s pos).1 : Nat) :=
  charB_eq _ (by have := rune_le s pos; omega)
theorem txt_nil : Txt [] := ⟨[], by simp, rfl⟩
theorem txt_cons {r : Nat} {t : List UInt8} (hr : charR (r : Int) = true) (h : Txt t) : Txt (runeB r ++ t) := by
  obtain ⟨rs, h1, rfl⟩ := h
  exact ⟨r :: rs, fun x hx => by rcases List.mem_cons.1 hx with rfl | hx; exact hr; exact h1 x hx, rfl⟩
theorem txt_head {l : List UInt8} (h : Txt l) (hl : l ≠ []) : charR ((Lib.decodeL l).1 : Nat) = true ∧ l = runeB (Lib.decodeL l).1 ++ l.drop (Lib.decodeL l).2 ∧ Txt (l.drop (Lib.decodeL l).2) ∧ ¬ ((Lib.decodeL l).1 = 65533 ∧ (Lib.decodeL l).2 = 1) := by
  obtain ⟨rs, h1, rfl⟩ := h
  cases rs with
  | nil => exact absurd rfl hl
  | cons r rs =>
    have hr := h1 r (by simp)
    have e : (r :: rs).flatMap runeB = runeB r ++ rs.flatMap runeB := rfl
    rw [e, dec_rune r (charR_ok hr)]
    simp only [List.drop_left]
    refine ⟨hr, trivial, ⟨rs, fun x hx => h1 x (by simp [hx]), rfl⟩, ?_⟩
    rintro ⟨rfl, hh⟩
    exact absurd hh (by decide +kernel)
theorem drop_nil (s : ByteArray) (pos : Nat) (h : ¬ pos < s.size) : s.data.toList.drop pos = [] := List.drop_eq_nil_of_le (by show s.size ≤ pos; omega)
theorem drop_ne (s : ByteArray) (pos : Nat) (h : pos < s.size) : s.data.toList.drop pos ≠ [] := by
  intro e
  have := congrArg List.length e
  rw [List.length_drop] at this
  have h' : s.data.toList.length = s.size := rfl
  simp at this
  omega
theorem fault_txt (s : ByteArray) : ∀ f pos, s.size < pos + f → ((faultFrom s f pos).1 = 0 ↔ Txt (s.data.toList.drop pos))
  | 0, pos, h => by
    rw [drop_nil s pos (by omega)]
    exact ⟨fun _ => txt_nil, fun _ => rfl⟩
  | f + 1, pos, h => by
    by_cases hp : pos < s.size
    · rw [faultFrom, if_pos hp, charB_dec]
      have hne := drop_ne s pos hp
      have hw := width_pos s pos hp
      have hmw := mark_width s pos
      have hrd := rune_dec _ hne
      have hth := fun hx => txt_head (l := s.data.toList.drop pos) hx hne
      rw [Lib.decodeL_drop] at hrd hth
      rw [List.drop_drop] at hrd hth
      have ih := fault_txt s f (pos + (Utf8.decode s pos).2) (by omega)
      generalize Utf8.decode s pos = d at *
      by_cases hb : d.1 = 65533 ∧ d.2 = 1
      · have e : (((d.1 : Nat) : Int) == 65533 && !markAt s pos) = true := by rw [hmw hb.1, hb.1, hb.2]; rfl
        rw [if_pos e]
        exact ⟨fun h => absurd h (by simp), fun h => absurd hb (hth h).2.2.2⟩
      · have e : ¬ (((d.1 : Nat) : Int) == 65533 && !markAt s pos) = true := by
          intro h
          rw [Bool.and_eq_true] at h
          have h1 : d.1 = 65533 := by have := beq_iff_eq.1 h.1; omega
          rw [hmw h1] at h
          exact hb ⟨h1, beq_iff_eq.1 h.2⟩
        rw [if_neg e]
        obtain ⟨ho, heq⟩ := hrd hb
        by_cases hc : charR ((d.1 : Nat) : Int) = true
        · rw [if_pos hc, ih]
          exact ⟨fun h => by rw [heq]; exact txt_cons hc h, fun h => (hth h).2.2.1⟩
        · rw [if_neg hc]
          exact ⟨fun h => absurd h (by simp), fun h => absurd (hth h).1 hc⟩
    · rw [faultFrom, if_neg hp, drop_nil s pos hp]
      exact ⟨fun _ => txt_nil, fun _ => rfl⟩
end Go.Proofs.YtnmcambbpgoodaaGreatDoor
/- Tokens of expressions, over lists of characters: what xplex's functions tell, in plain terms. -/
namespace Go.Proofs.YtnmcambbpgoodaaGreatDoor
def begC (c : Nat) : Bool := inL (c : Int) beginL
def goC (c : Nat) : Bool := inL (c : Int) beginL || inL (c : Int) onL
def blankC (c : Nat) : Bool := c == 9 || c == 10 || c == 13 || c == 32
def digC (c : Nat) : Bool := decide (48 ≤ c) && decide (c ≤ 57)
/-- The name that characters begin with. -/
def nameA : List Nat → List Nat
  | [] => []
  | c :: t => if begC c then c :: t.takeWhile goC else []
def isNm (l : List Nat) : Bool := !l.isEmpty && nameA l == l
/-- Does a list begin with a character, and what stands behind it? -/
def heads (c : Nat) (l : List Nat) : Bool := l.head? == some c
def qnameA (l : List Nat) : List Nat :=
  if !(nameA l).isEmpty && (heads 58 (l.drop (nameA l).length) && !(nameA (l.drop (nameA l).length).tail).isEmpty) then nameA l ++ 58 :: nameA (l.drop (nameA l).length).tail else nameA l
def wordA (l : List Nat) : List Nat :=
  if heads 42 l then [42] else
  if isNm (qnameA l) && [58, 42].isPrefixOf (l.drop (qnameA l).length) then qnameA l ++ [58, 42] else qnameA l
def digsA (l : List Nat) : List Nat := l.takeWhile digC
def numA (l : List Nat) : List Nat :=
  if heads 46 (l.drop (digsA l).length) && !(digsA (l.drop (digsA l).length).tail).isEmpty then digsA l ++ 46 :: digsA (l.drop (digsA l).length).tail else digsA l
/-- What stands within the string that characters begin with, and its sign. -/
def strAt (q : Nat) (l : List Nat) : Option (List Nat) :=
  if heads q l && l.tail.contains q then some (l.tail.takeWhile (· != q)) else none
def varA (l : List Nat) : Option (List Nat) :=
  if heads 36 l && !(qnameA l.tail).isEmpty then some (qnameA l.tail) else none
/-- Is it a QName? -/
def isQ (w : List Nat) : Bool :=
  if w.contains 58 then isNm (w.takeWhile (· != 58)) && isNm (w.dropWhile (· != 58)).tail else isNm w
def opWord (w : List Nat) : Bool := w == [97, 110, 100] || w == [111, 114] || w == [109, 111, 100] || w == [100, 105, 118] || w == [42]
def typeWord (w : List Nat) : Bool := w == [99, 111, 109, 109, 101, 110, 116] || w == [116, 101, 120, 116] ||
  w == [112, 114, 111, 99, 101, 115, 115, 105, 110, 103, 45, 105, 110, 115, 116, 114, 117, 99, 116, 105, 111, 110] || w == [110, 111, 100, 101]
/-- What a word is: its kind; none: it can't stand there. pl: an operator is asked for there. -/
def wordK (w b : List Nat) (pl : Bool) : Option Nat :=
  if pl then (if opWord w then some 8 else none) else
  if heads 40 (b.dropWhile blankC) && typeWord w then some 5 else
  if heads 40 (b.dropWhile blankC) && isQ w then some 4 else
  if [58, 58].isPrefixOf (b.dropWhile blankC) && isNm w then some 6 else some 3
def signL : List (Nat × List Nat) := [(8, [47, 47]), (8, [33, 61]), (8, [60, 61]), (8, [62, 61]), (9, [58, 58]), (9, [46, 46]), (8, [47]), (8, [124]), (8, [43]), (8, [45]), (8, [61]), (8, [60]), (8, [62]),
  (9, [40]), (9, [41]), (9, [91]), (9, [93]), (9, [46]), (9, [64]), (9, [44])]
def signA (l : List Nat) : Option (Nat × List Nat) := signL.find? (fun x => x.2.isPrefixOf l)
/-- A token: its kind, its text, and the characters that it takes. -/
structure Tok where
  kind : Nat
  text : List Nat
  raw : List Nat
  deriving DecidableEq
def tokA (l : List Nat) (pl : Bool) : Option Tok :=
  if !(numA l).isEmpty then some ⟨1, numA l, numA l⟩ else
  match strAt 34 l with
  | some t => some ⟨2, t, 34 :: t ++ [34]⟩
  | none => match strAt 39 l with
    | some t => some ⟨2, t, 39 :: t ++ [39]⟩
    | none => match varA l with
      | some t => some ⟨7, t, 36 :: t⟩
      | none => if !(wordA l).isEmpty then (wordK (wordA l) (l.drop (wordA l).length) pl).map (fun k => ⟨k, wordA l, wordA l⟩)
        else (signA l).map (fun x => ⟨x.1, x.2, x.2⟩)
/-- Is an operator asked for behind a token? -/
def behindOp (t : Tok) : Bool := !(t.kind == 8 || (t.kind == 9 && (t.text == [64] || t.text == [58, 58] || t.text == [40] || t.text == [91] || t.text == [44])))
def plOf (acc : List (Tok × Nat)) : Bool := match acc.getLast? with | none => false | some t => behindOp t.1
/-- The tokens from a place on, behind blanks: all of them, or the place of what is none. n: how many bytes a list of characters has. -/
def scanA (n : List Nat → Nat) : Nat → List (Tok × Nat) → List Nat → List Nat → Except Nat (List (Tok × Nat))
  | 0, acc, _, _ => .ok acc
  | f + 1, acc, pre, l =>
    if (l.dropWhile blankC).isEmpty then .ok acc else
    match tokA (l.dropWhile blankC) (plOf acc) with
    | none => .error (n (pre ++ l.takeWhile blankC))
    | some t => scanA n f (acc ++ [(t, n (pre ++ l.takeWhile blankC))]) (pre ++ l.takeWhile blankC ++ t.raw) ((l.dropWhile blankC).drop t.raw.length)
end Go.Proofs.YtnmcambbpgoodaaGreatDoor
/- Texts as lists of characters: their bytes, what is cut off them, what is decoded at a place: plain lemmas. -/
namespace Go.Proofs.YtnmcambbpgoodaaGreatDoor
open Go.RowKit
/-- A list of characters as bytes, as a text. -/
def tx (l : List Nat) : List UInt8 := l.flatMap runeB
def T (l : List Nat) : ByteArray := ⟨(tx l).toArray⟩
def okL (l : List Nat) : Prop := ∀ c ∈ l, charR (c : Int) = true
theorem tx_nil : tx [] = [] := rfl
theorem tx_cons (c : Nat) (l : List Nat) : tx (c :: l) = runeB c ++ tx l := rfl
theorem tx_append (a b : List Nat) : tx (a ++ b) = tx a ++ tx b := by unfold tx; rw [List.flatMap_append]
theorem T_data (l : List Nat) : (T l).data.toList = tx l := by unfold T; simp
theorem T_toList (l : List Nat) : (T l).toList = tx l := by rw [toList_data, T_data]
theorem T_size (l : List Nat) : (T l).size = (tx l).length := rfl
theorem okL_left {a b : List Nat} (h : okL (a ++ b)) : okL a := fun c hc => h c (List.mem_append_left _ hc)
theorem okL_right {a b : List Nat} (h : okL (a ++ b)) : okL b := fun c hc => h c (List.mem_append_right _ hc)
theorem okL_tail {c : Nat} {l : List Nat} (h : okL (c :: l)) : okL l := fun x hx => h x (List.mem_cons_of_mem _ hx)
theorem okL_drop {l : List Nat} (h : okL l) (n : Nat) : okL (l.drop n) := fun c hc => h c (List.mem_of_mem_drop hc)
theorem okL_pre {a l : List Nat} (h : okL l) (hp : a <+: l) : okL a := fun c hc => h c (hp.subset hc)
theorem okL_app {a b : List Nat} (ha : okL a) (hb : okL b) : okL (a ++ b) := fun c hc => by
  rcases List.mem_append.1 hc with h | h
  · exact ha c h
  · exact hb c h
theorem runeB_pos {c : Nat} (h : charR (c : Int) = true) : 1 ≤ (runeB c).length := by
  obtain ⟨x, t, e, _⟩ := runeB_first (charR_ok h)
  rw [e]; simp
theorem tx_len_cons {c : Nat} {l : List Nat} (h : okL (c :: l)) : (tx l).length < (tx (c :: l)).length := by
  have := runeB_pos (h c (by simp))
  rw [tx_cons, List.length_append]; omega
theorem tx_len_ge : ∀ {l : List Nat}, okL l → l.length ≤ (tx l).length
  | [], _ => Nat.zero_le _
  | c :: l, h => by
    have h1 := tx_len_cons h
    have h2 := tx_len_ge (okL_tail h)
    simp only [List.length_cons]; omega
theorem tx_len_zero {l : List Nat} (h : okL l) (h0 : (tx l).length = 0) : l = [] := by
  have := tx_len_ge h
  exact List.length_eq_zero_iff.1 (by omega)
theorem tx_snoc (p : List Nat) (c : Nat) : (tx (p ++ [c])).length = (tx p).length + (runeB c).length := by
  rw [tx_append, List.length_append]; simp [tx]
theorem tx_len_app (p t : List Nat) : (tx (p ++ t)).length = (tx p).length + (tx t).length := by rw [tx_append, List.length_append]
/-- What is decoded at a character's place. -/
theorem dec_T (p : List Nat) (c : Nat) (t : List Nat) (h : charR (c : Int) = true) : Utf8.decode (T (p ++ c :: t)) (tx p).length = (c, (runeB c).length) ∧ (tx p).length < (T (p ++ c :: t)).size := by
  have hd : (T (p ++ c :: t)).data.toList.drop (tx p).length = runeB c ++ tx t := by
    rw [T_data, tx_append, List.drop_left, tx_cons]
  refine ⟨?_, ?_⟩
  · rw [← Lib.decodeL_drop, hd]
    exact dec_rune c (charR_ok h) _
  · have := runeB_pos h
    rw [T_size, tx_len_app, tx_cons, List.length_append]; omega
theorem dec_at {l p t : List Nat} {c : Nat} (e : l = p ++ c :: t) (h : okL l) : Utf8.decode (T l) (tx p).length = (c, (runeB c).length) ∧ (tx p).length < (T l).size ∧ charR (c : Int) = true ∧ 1 ≤ (runeB c).length := by
  subst e
  have hc := h c (by simp)
  exact ⟨(dec_T p c t hc).1, (dec_T p c t hc).2, hc, runeB_pos hc⟩
theorem end_at {l p : List Nat} (e : l = p ++ []) : ¬ (tx p).length < (T l).size := by
  subst e; rw [T_size, List.append_nil]; omega
theorem T_pre (p t : List Nat) : (T (p ++ t)).extract 0 (tx p).length = T p := by
  unfold T
  apply ByteArray.ext
  rw [ByteArray.data_extract, tx_append]
  simp
theorem pre_at {l p t : List Nat} (e : l = p ++ t) : (T l).extract 0 (tx p).length = T p := by subst e; exact T_pre p t
theorem T_suf (p t : List Nat) : (T (p ++ t)).extract (tx p).length (T (p ++ t)).size = T t := by
  rw [T_size]
  unfold T
  apply ByteArray.ext
  rw [ByteArray.data_extract, tx_append]
  simp
theorem suf_at {l p t : List Nat} (e : l = p ++ t) : (T l).extract (tx p).length (T l).size = T t := by subst e; exact T_suf p t
theorem T_mid (p m t : List Nat) : (T (p ++ m ++ t)).extract (tx p).length ((tx p).length + (tx m).length) = T m := by
  unfold T
  apply ByteArray.ext
  rw [ByteArray.data_extract, tx_append, tx_append]
  simp
theorem T_app (a b : List Nat) : T a ++ T b = T (a ++ b) := by
  unfold T
  apply ByteArray.ext
  rw [ByteArray.data_append, tx_append]
  simp
theorem T_empty {l : List Nat} (h : okL l) : ((T l).toList = [] ↔ l = []) := by
  rw [T_toList]
  constructor
  · intro h0; exact tx_len_zero h (by rw [h0]; rfl)
  · rintro rfl; rfl
/-- A text that begins with signs below 128. -/
theorem pre_tx : ∀ (a l : List Nat), (∀ c ∈ a, c < 128) → okL l → Lib.hasPrefix (tx l) (a.map UInt8.ofNat) = a.isPrefixOf l
  | [], l, _, _ => by unfold Lib.hasPrefix; cases tx l <;> rfl
  | x :: a, [], _, _ => rfl
  | x :: a, c :: l, ha, hl => by
    have hx := ha x (by simp)
    have ih := pre_tx a l (fun c hc => ha c (by simp [hc])) (okL_tail hl)
    have hc := charR_ok (hl c (by simp))
    unfold Lib.hasPrefix at ih ⊢
    rw [tx_cons, List.map_cons]
    show _ = (x == c && a.isPrefixOf l)
    by_cases h1 : c < 128
    · rw [runeB_one h1, List.singleton_append]
      show (UInt8.ofNat x == UInt8.ofNat c && (a.map UInt8.ofNat).isPrefixOf (tx l)) = _
      rw [ih]
      congr 1
      rw [Bool.eq_iff_iff, beq_iff_eq, beq_iff_eq]
      constructor
      · intro e
        have := congrArg UInt8.toNat e
        rwa [u8_nat (by omega), u8_nat (by omega)] at this
      · rintro rfl; rfl
    · have hne : (x == c) = false := by simp; omega
      rw [hne, Bool.false_and]
      have key : ∀ (n : Nat) (r : List UInt8), 128 ≤ n → n < 256 → (UInt8.ofNat x :: a.map UInt8.ofNat).isPrefixOf (UInt8.ofNat n :: r) = false := by
        intro n r h2 h3
        show (UInt8.ofNat x == UInt8.ofNat n && _) = false
        have : (UInt8.ofNat x == UInt8.ofNat n) = false := by
          rw [beq_eq_false_iff_ne]
          intro e
          have := congrArg UInt8.toNat e
          rw [u8_nat (by omega), u8_nat h3] at this
          omega
        rw [this, Bool.false_and]
      unfold okR at hc
      by_cases h2 : c < 2048
      · rw [runeB_two (by omega) h2]; exact key _ _ (by omega) (by omega)
      · by_cases h3 : c < 65536
        · rw [runeB_three (by omega) h3 (by unfold okR; omega)]; exact key _ _ (by omega) (by omega)
        · rw [runeB_four (by omega) (by omega)]; exact key _ _ (by omega) (by omega)
theorem isPre_one (q : Nat) (l : List Nat) : [q].isPrefixOf l = heads q l := by
  cases l with
  | nil => rfl
  | cons c t =>
    show (q == c && [].isPrefixOf t) = _
    rw [show ([] : List Nat).isPrefixOf t = true by cases t <;> rfl, Bool.and_true]
    unfold heads
    simp only [List.head?_cons]
    rw [Bool.eq_iff_iff]; simp; exact eq_comm
theorem pre_one {q : Nat} {l : List Nat} (hq : q < 128) (hl : okL l) : Lib.hasPrefix (tx l) [UInt8.ofNat q] = heads q l := by
  have := pre_tx [q] l (fun c hc => by rw [List.mem_singleton.1 hc]; exact hq) hl
  rw [isPre_one] at this
  exact this
theorem cut_one {q : Nat} {l : List Nat} (hq : q < 128) (hl : okL l) : Lib.trimPrefix (tx l) [UInt8.ofNat q] = tx (if heads q l then l.tail else l) := by
  unfold Lib.trimPrefix
  rw [pre_one hq hl]
  by_cases h : heads q l = true
  · rw [if_pos h, if_pos h]
    cases l with
    | nil => cases h
    | cons c t =>
      have hc : c = q := by unfold heads at h; simpa using h
      subst hc
      rw [tx_cons, runeB_one hq]
      rfl
  · rw [if_neg h, if_neg h]
theorem digC_lt {c : Nat} (h : digC c = true) : 48 ≤ c ∧ c ≤ 57 := by simpa [digC] using h
theorem digC_ge {c : Nat} (h : digC c = false) : c < 48 ∨ 57 < c := by simp [digC] at h; omega
theorem begC_eq (c : Nat) (h : charR (c : Int) = true) : beginB (c : Int) = begC c := beginB_eq _ (by have := charR_ok h; unfold okR at this; omega)
theorem goC_eq (c : Nat) (h : charR (c : Int) = true) : goesB (c : Int) = goC c := goesB_eq _ (by have := charR_ok h; unfold okR at this; omega)
theorem blankC_eq (c : Nat) : blankB (c : Int) = blankC c := by
  unfold blankB blankC
  rw [Bool.eq_iff_iff]
  simp
  omega
/-- A text of characters that may be is one of a list of such. -/
theorem txt_T {s : ByteArray} (h : Txt s.data.toList) : ∃ l, okL l ∧ s = T l := by
  obtain ⟨rs, h1, h2⟩ := h
  refine ⟨rs, h1, ?_⟩
  unfold T tx
  rw [← h2]
theorem T_txt {l : List Nat} (h : okL l) : Txt (T l).data.toList := ⟨l, h, T_data l⟩
end Go.Proofs.YtnmcambbpgoodaaGreatDoor
