/- Several texts, laid as one. -/
import Derived.Test.YtjjggncbhenffaaGreatDoorGad
import Derived.Test.YtjjggncbhenffaaGreatDoorGaa
/- What the program takes for a fault is what the reference takes for one: plain lemmas. -/
namespace Go.Proofs.YtjjggncbhenffaaGreatDoor
open Go.RowKit
theorem mark_iff (s : ByteArray) (pos : Nat) : markAt s pos = true ↔ pos + 2 < s.size ∧ (s.get! pos).toNat = 239 ∧ (s.get! (pos + 1)).toNat = 191 ∧ (s.get! (pos + 2)).toNat = 189 := by
  have hl : s.data.toList.length = s.size := rfl
  unfold markAt Lib.hasPrefix
  rw [List.isPrefixOf_iff_prefix, List.prefix_iff_eq_take]
  constructor
  · intro h
    have h3 : pos + 2 < s.size := by
      have := congrArg List.length h
      simp only [List.length_take, List.length_drop, List.length_cons, List.length_nil, hl] at this
      omega
    have g : ∀ k (hk : k < 3), (s.data.toList[pos + k]'(by omega)) = [239, 191, 189][k]'hk := fun k hk => by
      have := congrArg (·[k]?) h
      simp only [List.getElem?_take, List.getElem?_drop, List.length_cons, List.length_nil, hk, if_true] at this
      rw [List.getElem?_eq_getElem (by simpa using hk), List.getElem?_eq_getElem (by omega)] at this
      exact (Option.some.inj this).symm
    refine ⟨h3, ?_, ?_, ?_⟩
    · rw [get_data s pos (by omega)]; have := g 0 (by decide); simp only [Nat.add_zero] at this; rw [this]; rfl
    · rw [get_data s (pos + 1) (by omega), g 1 (by decide)]; rfl
    · rw [get_data s (pos + 2) (by omega), g 2 (by decide)]; rfl
  · rintro ⟨h3, h0, h1, h2⟩
    rw [get_data s pos (by omega)] at h0
    rw [get_data s (pos + 1) (by omega)] at h1
    rw [get_data s (pos + 2) (by omega)] at h2
    rw [List.drop_eq_getElem_cons (by omega), List.drop_eq_getElem_cons (by omega), List.drop_eq_getElem_cons (by omega)]
    simp only [List.length_cons, List.length_nil, List.take_succ_cons, List.take_zero]
    rw [UInt8.toNat_inj.1 (show _ = (239 : UInt8).toNat from h0), UInt8.toNat_inj.1 (show _ = (191 : UInt8).toNat from h1), UInt8.toNat_inj.1 (show _ = (189 : UInt8).toNat from h2)]
/-- The replacement character is decoded of its own three bytes, or of one byte that is none. -/
theorem mark_width (s : ByteArray) (pos : Nat) (h : (Utf8.decode s pos).1 = 65533) : (!markAt s pos) = ((Utf8.decode s pos).2 == 1) := by
  have b0 := (s.get! pos).toNat_lt
  have b1 := (s.get! (pos + 1)).toNat_lt
  have b2 := (s.get! (pos + 2)).toNat_lt
  have hm := mark_iff s pos
  revert h
  rw [Lib.decode_at]
  intro h
  generalize (s.get! pos).toNat = x0 at *
  generalize (s.get! (pos + 1)).toNat = x1 at *
  generalize (s.get! (pos + 2)).toNat = x2 at *
  generalize (s.get! (pos + 3)).toNat = x3 at *
  have key : ((Lib.decodeN (s.size - pos) x0 x1 x2 x3).2 = 1 ∧ ¬ (pos + 2 < s.size ∧ x0 = 239 ∧ x1 = 191 ∧ x2 = 189)) ∨ ((Lib.decodeN (s.size - pos) x0 x1 x2 x3).2 ≠ 1 ∧ (pos + 2 < s.size ∧ x0 = 239 ∧ x1 = 191 ∧ x2 = 189)) := by
    revert h
    unfold Lib.decodeN
    repeat' split
    all_goals (intro h; first | (exfalso; simp only at h; omega) | (left; refine ⟨rfl, ?_⟩; omega) | (right; refine ⟨by simp only; omega, ?_⟩; simp only at h; omega))
  rcases key with ⟨k1, k2⟩ | ⟨k1, k2⟩
  · rw [k1]
    cases hc : markAt s pos
    · rfl
    · exact absurd (hm.1 hc) k2
  · rw [hm.2 k2]
    simp [k1]
theorem text_eq (s : ByteArray) : ∀ f pos, ((faultFrom s f pos).1 == 0) = decide ((badFrom s f pos).1 < 0)
  | 0, pos => rfl
  | f + 1, pos => by
    have hd := decode_le s pos
    unfold faultFrom badFrom
    by_cases hp : pos < s.size
    · rw [if_pos hp, if_pos hp]
      by_cases h : (Utf8.decode s pos).1 = 65533
      · rw [mark_width s pos h, h]
        by_cases hw : (Utf8.decode s pos).2 = 1
        · simp [hw]
        · have ih := text_eq s f (pos + (Utf8.decode s pos).2)
          have hc : charB ((65533 : Nat) : Int) = true := by decide +kernel
          have hc' : charR ((65533 : Nat) : Int) = true := by decide +kernel
          have hw' : (((Utf8.decode s pos).2 : Int) == 1) = false := by simp; omega
          have hw'' : ((Utf8.decode s pos).2 == 1) = false := by simpa using hw
          simp only [hc, hc', hw', hw'', Bool.and_false, if_true, Bool.false_eq_true, if_false]
          exact ih
      · have h' : (((Utf8.decode s pos).1 : Int) == 65533) = false := by simp; omega
        rw [charB_eq _ (by omega)]
        simp only [h', Bool.false_and, Bool.false_eq_true, if_false]
        cases hc : charR (Utf8.decode s pos).1
        · simp
        · simpa using text_eq s f (pos + (Utf8.decode s pos).2)
    · rw [if_neg hp, if_neg hp]; rfl
end Go.Proofs.YtjjggncbhenffaaGreatDoor
/- Texts, as characters one behind the other, in UTF-8: plain lemmas. -/
namespace Go.Proofs.YtjjggncbhenffaaGreatDoor
open Go.RowKit
theorem charB_dec (s : ByteArray) (pos : Nat) : charB ((Utf8.decode s pos).1 : Nat) = charR ((Utf8.decode s pos).1 : Nat) :=
  charB_eq _ (by have := rune_le s pos; omega)
theorem txt_nil : Txt [] := ⟨[], by simp, rfl⟩
theorem txt_cons {r : Nat} {t : List UInt8} (hr : charR (r : Int) = true) (h : Txt t) : Txt (runeB r ++ t) := by
  obtain ⟨rs, h1, rfl⟩ := h
  exact ⟨r :: rs, fun x hx => by rcases List.mem_cons.1 hx with rfl | hx; exact hr; exact h1 x hx, rfl⟩
theorem txt_head {l : List UInt8} (h : Txt l) (hl : l ≠ []) : charR ((Lib.decodeL l).1 : Nat) = true ∧ l = runeB (Lib.decodeL l).1 ++ l.drop (Lib.decodeL l).2 ∧ Txt (l.drop (Lib.decodeL l).2) ∧ ¬ ((Lib.decodeL l).1 = 65533 ∧ (Lib.decodeL l).2 = 1) := by
  obtain ⟨rs, h1, rfl⟩ := h
  cases rs with
  | nil => exact absurd rfl hl
  | cons r rs =>
    have hr := h1 r (by simp)
    have e : (r :: rs).flatMap runeB = runeB r ++ rs.flatMap runeB := rfl
    rw [e, dec_rune r (charR_ok hr)]
    simp only [List.drop_left]
    refine ⟨hr, trivial, ⟨rs, fun x hx => h1 x (by simp [hx]), rfl⟩, ?_⟩
    rintro ⟨rfl, hh⟩
    exact absurd hh (by decide +kernel)
theorem drop_nil (s : ByteArray) (pos : Nat) (h : ¬ pos < s.size) : s.data.toList.drop pos = [] := List.drop_eq_nil_of_le (by show s.size ≤ pos; omega)
theorem drop_ne (s : ByteArray) (pos : Nat) (h : pos < s.size) : s.data.toList.drop pos ≠ [] := by
  intro e
  have := congrArg List.length e
  rw [List.length_drop] at this
  have h' : s.data.toList.length = s.size := rfl
  simp at this
  omega
theorem fault_txt (s : ByteArray) : ∀ f pos, s.size < pos + f → ((faultFrom s f pos).1 = 0 ↔ Txt (s.data.toList.drop pos))
  | 0, pos, h => by
    rw [drop_nil s pos (by omega)]
    exact ⟨fun _ => txt_nil, fun _ => rfl⟩
  | f + 1, pos, h => by
    by_cases hp : pos < s.size
    · rw [faultFrom, if_pos hp, charB_dec]
      have hne := drop_ne s pos hp
      have hw := width_pos s pos hp
      have hmw := mark_width s pos
      have hrd := rune_dec _ hne
      have hth := fun hx => txt_head (l := s.data.toList.drop pos) hx hne
      rw [Lib.decodeL_drop] at hrd hth
      rw [List.drop_drop] at hrd hth
      have ih := fault_txt s f (pos + (Utf8.decode s pos).2) (by omega)
      generalize Utf8.decode s pos = d at *
      by_cases hb : d.1 = 65533 ∧ d.2 = 1
      · have e : (((d.1 : Nat) : Int) == 65533 && !markAt s pos) = true := by rw [hmw hb.1, hb.1, hb.2]; rfl
        rw [if_pos e]
        exact ⟨fun h => absurd h (by simp), fun h => absurd hb (hth h).2.2.2⟩
      · have e : ¬ (((d.1 : Nat) : Int) == 65533 && !markAt s pos) = true := by
          intro h
          rw [Bool.and_eq_true] at h
          have h1 : d.1 = 65533 := by have := beq_iff_eq.1 h.1; omega
          rw [hmw h1] at h
          exact hb ⟨h1, beq_iff_eq.1 h.2⟩
        rw [if_neg e]
        obtain ⟨ho, heq⟩ := hrd hb
        by_cases hc : charR ((d.1 : Nat) : Int) = true
        · rw [if_pos hc, ih]
          exact ⟨fun h => by rw [heq]; exact txt_cons hc h, fun h => (hth h).2.2.1⟩
        · rw [if_neg hc]
          exact ⟨fun h => absurd h (by simp), fun h => absurd (hth h).1 hc⟩
    · rw [faultFrom, if_neg hp, drop_nil s pos hp]
      exact ⟨fun _ => txt_nil, fun _ => rfl⟩
end Go.Proofs.YtjjggncbhenffaaGreatDoor
/- Tokens of expressions, over lists of characters: what xplex's functions tell, in plain terms. -/
namespace Go.Proofs.YtjjggncbhenffaaGreatDoor
def begC (c : Nat) : Bool := inL (c : Int) beginL
def goC (c : Nat) : Bool := inL (c : Int) beginL || inL (c : Int) onL
def blankC (c : Nat) : Bool := c == 9 || c == 10 || c == 13 || c == 32
def digC (c : Nat) : Bool := decide (48 ≤ c) && decide (c ≤ 57)
/-- The name that characters begin with. -/
def nameA : List Nat → List Nat
  | [] => []
  | c :: t => if begC c then c :: t.takeWhile goC else []
def isNm (l : List Nat) : Bool := !l.isEmpty && nameA l == l
/-- Does a list begin with a character, and what stands behind it? -/
def heads (c : Nat) (l : List Nat) : Bool := l.head? == some c
def qnameA (l : List Nat) : List Nat :=
  if !(nameA l).isEmpty && (heads 58 (l.drop (nameA l).length) && !(nameA (l.drop (nameA l).length).tail).isEmpty) then nameA l ++ 58 :: nameA (l.drop (nameA l).length).tail else nameA l
/-- Is it a QName? -/
def isQ (w : List Nat) : Bool :=
  if w.contains 58 then isNm (w.takeWhile (· != 58)) && isNm (w.dropWhile (· != 58)).tail else isNm w
/-- A token: its kind, its text, and the characters that it takes. -/
structure Tok where
  kind : Nat
  text : List Nat
  raw : List Nat
  deriving DecidableEq
end Go.Proofs.YtjjggncbhenffaaGreatDoor
/- Texts as lists of characters: their bytes, what is cut off them, what is decoded at a place: plain lemmas. -/
namespace Go.Proofs.YtjjggncbhenffaaGreatDoor
open Go.RowKit
/-- A list of characters as bytes, as a text. -/
def tx (l : List Nat) : List UInt8 := l.flatMap runeB
def T (l : List Nat) : ByteArray := ⟨(tx l).toArray⟩
def okL (l : List Nat) : Prop := ∀ c ∈ l, charR (c : Int) = true
theorem tx_nil : tx [] = [] := rfl
theorem tx_cons (c : Nat) (l : List Nat) : tx (c :: l) = runeB c ++ tx l := rfl
theorem tx_append (a b : List Nat) : tx (a ++ b) = tx a ++ tx b := by unfold tx; rw [List.flatMap_append]
theorem T_data (l : List Nat) : (T l).data.toList = tx l := by unfold T; simp
theorem T_toList (l : List Nat) : (T l).toList = tx l := by rw [toList_data, T_data]
theorem T_size (l : List Nat) : (T l).size = (tx l).length := rfl
theorem okL_left {a b : List Nat} (h : okL (a ++ b)) : okL a := fun c hc => h c (List.mem_append_left _ hc)
theorem okL_right {a b : List Nat} (h : okL (a ++ b)) : okL b := fun c hc => h c (List.mem_append_right _ hc)
theorem okL_tail {c : Nat} {l : List Nat} (h : okL (c :: l)) : okL l := fun x hx => h x (List.mem_cons_of_mem _ hx)
theorem okL_drop {l : List Nat} (h : okL l) (n : Nat) : okL (l.drop n) := fun c hc => h c (List.mem_of_mem_drop hc)
theorem okL_pre {a l : List Nat} (h : okL l) (hp : a <+: l) : okL a := fun c hc => h c (hp.subset hc)
theorem okL_app {a b : List Nat} (ha : okL a) (hb : okL b) : okL (a ++ b) := fun c hc => by
  rcases List.mem_append.1 hc with h | h
  · exact ha c h
  · exact hb c h
theorem runeB_pos {c : Nat} (h : charR (c : Int) = true) : 1 ≤ (runeB c).length := by
  obtain ⟨x, t, e, _⟩ := runeB_first (charR_ok h)
  rw [e]; simp
theorem tx_len_cons {c : Nat} {l : List Nat} (h : okL (c :: l)) : (tx l).length < (tx (c :: l)).length := by
  have := runeB_pos (h c (by simp))
  rw [tx_cons, List.length_append]; omega
theorem tx_len_ge : ∀ {l : List Nat}, okL l → l.length ≤ (tx l).length
  | [], _ => Nat.zero_le _
  | c :: l, h => by
    have h1 := tx_len_cons h
    have h2 := tx_len_ge (okL_tail h)
    simp only [List.length_cons]; omega
theorem tx_len_zero {l : List Nat} (h : okL l) (h0 : (tx l).length = 0) : l = [] := by
  have := tx_len_ge h
  exact List.length_eq_zero_iff.1 (by omega)
theorem tx_snoc (p : List Nat) (c : Nat) : (tx (p ++ [c])).length = (tx p).length + (runeB c).length := by
  rw [tx_append, List.length_append]; simp [tx]
theorem tx_len_app (p t : List Nat) : (tx (p ++ t)).length = (tx p).length + (tx t).length := by rw [tx_append, List.length_append]
/-- What is decoded at a character's place. -/
theorem dec_T (p : List Nat) (c : Nat) (t : List Nat) (h : charR (c : Int) = true) : Utf8.decode (T (p ++ c :: t)) (tx p).length = (c, (runeB c).length) ∧ (tx p).length < (T (p ++ c :: t)).size := by
  have hd : (T (p ++ c :: t)).data.toList.drop (tx p).length = runeB c ++ tx t := by
    rw [T_data, tx_append, List.drop_left, tx_cons]
  refine ⟨?_, ?_⟩
  · rw [← Lib.decodeL_drop, hd]
    exact dec_rune c (charR_ok h) _
  · have := runeB_pos h
    rw [T_size, tx_len_app, tx_cons, List.length_append]; omega
theorem dec_at {l p t : List Nat} {c : Nat} (e : l = p ++ c :: t) (h : okL l) : Utf8.decode (T l) (tx p).length = (c, (runeB c).length) ∧ (tx p).length < (T l).size ∧ charR (c : Int) = true ∧ 1 ≤ (runeB c).length := by
  subst e
  have hc := h c (by simp)
  exact ⟨(dec_T p c t hc).1, (dec_T p c t hc).2, hc, runeB_pos hc⟩
theorem end_at {l p : List Nat} (e : l = p ++ []) : ¬ (tx p).length < (T l).size := by
  subst e; rw [T_size, List.append_nil]; omega
theorem T_pre (p t : List Nat) : (T (p ++ t)).extract 0 (tx p).length = T p := by
  unfold T
  apply ByteArray.ext
  rw [ByteArray.data_extract, tx_append]
  simp
theorem pre_at {l p t : List Nat} (e : l = p ++ t) : (T l).extract 0 (tx p).length = T p := by subst e; exact T_pre p t
theorem T_suf (p t : List Nat) : (T (p ++ t)).extract (tx p).length (T (p ++ t)).size = T t := by
  rw [T_size]
  unfold T
  apply ByteArray.ext
  rw [ByteArray.data_extract, tx_append]
  simp
theorem suf_at {l p t : List Nat} (e : l = p ++ t) : (T l).extract (tx p).length (T l).size = T t := by subst e; exact T_suf p t
theorem T_app (a b : List Nat) : T a ++ T b = T (a ++ b) := by
  unfold T
  apply ByteArray.ext
  rw [ByteArray.data_append, tx_append]
  simp
theorem T_empty {l : List Nat} (h : okL l) : ((T l).toList = [] ↔ l = []) := by
  rw [T_toList]
  constructor
  · intro h0; exact tx_len_zero h (by rw [h0]; rfl)
  · rintro rfl; rfl
/-- A text that begins with signs below 128. -/
theorem pre_tx : ∀ (a l : List Nat), (∀ c ∈ a, c < 128) → okL l → Lib.hasPrefix (tx l) (a.map UInt8.ofNat) = a.isPrefixOf l
  | [], l, _, _ => by unfold Lib.hasPrefix; cases tx l <;> rfl
  | x :: a, [], _, _ => rfl
  | x :: a, c :: l, ha, hl => by
    have hx := ha x (by simp)
    have ih := pre_tx a l (fun c hc => ha c (by simp [hc])) (okL_tail hl)
    have hc := charR_ok (hl c (by simp))
    unfold Lib.hasPrefix at ih ⊢
    rw [tx_cons, List.map_cons]
    show _ = (x == c && a.isPrefixOf l)
    by_cases h1 : c < 128
    · rw [runeB_one h1, List.singleton_append]
      show (UInt8.ofNat x == UInt8.ofNat c && (a.map UInt8.ofNat).isPrefixOf (tx l)) = _
      rw [ih]
      congr 1
      rw [Bool.eq_iff_iff, beq_iff_eq, beq_iff_eq]
      constructor
      · intro e
        have := congrArg UInt8.toNat e
        rwa [u8_nat (by omega), u8_nat (by omega)] at this
      · rintro rfl; rfl
    · have hne : (x == c) = false := by simp; omega
      rw [hne, Bool.false_and]
      have key : ∀ (n : Nat) (r : List UInt8), 128 ≤ n → n < 256 → (UInt8.ofNat x :: a.map UInt8.ofNat).isPrefixOf (UInt8.ofNat n :: r) = false := by
        intro n r h2 h3
        show (UInt8.ofNat x == UInt8.ofNat n && _) = false
        have : (UInt8.ofNat x == UInt8.ofNat n) = false := by
          rw [beq_eq_false_iff_ne]
          intro e
          have := congrArg UInt8.toNat e
          rw [u8_nat (by omega), u8_nat h3] at this
          omega
        rw [this, Bool.false_and]
      unfold okR at hc
      by_cases h2 : c < 2048
      · rw [runeB_two (by omega) h2]; exact key _ _ (by omega) (by omega)
      · by_cases h3 : c < 65536
        · rw [runeB_three (by omega) h3 (by unfold okR; omega)]; exact key _ _ (by omega) (by omega)
        · rw [runeB_four (by omega) (by omega)]; exact key _ _ (by omega) (by omega)
theorem isPre_one (q : Nat) (l : List Nat) : [q].isPrefixOf l = heads q l := by
  cases l with
  | nil => rfl
  | cons c t =>
    show (q == c && [].isPrefixOf t) = _
    rw [show ([] : List Nat).isPrefixOf t = true by cases t <;> rfl, Bool.and_true]
    unfold heads
    simp only [List.head?_cons]
    rw [Bool.eq_iff_iff]; simp; exact eq_comm
theorem begC_eq (c : Nat) (h : charR (c : Int) = true) : beginB (c : Int) = begC c := beginB_eq _ (by have := charR_ok h; unfold okR at this; omega)
theorem goC_eq (c : Nat) (h : charR (c : Int) = true) : goesB (c : Int) = goC c := goesB_eq _ (by have := charR_ok h; unfold okR at this; omega)
theorem blankC_eq (c : Nat) : blankB (c : Int) = blankC c := by
  unfold blankB blankC
  rw [Bool.eq_iff_iff]
  simp
  omega
/-- A text of characters that may be is one of a list of such. -/
theorem txt_T {s : ByteArray} (h : Txt s.data.toList) : ∃ l, okL l ∧ s = T l := by
  obtain ⟨rs, h1, h2⟩ := h
  refine ⟨rs, h1, ?_⟩
  unfold T tx
  rw [← h2]
theorem T_txt {l : List Nat} (h : okL l) : Txt (T l).data.toList := ⟨l, h, T_data l⟩
end Go.Proofs.YtjjggncbhenffaaGreatDoor
/- Tokens of XML, over lists of characters: what xmlscan's functions tell, in plain terms. -/
namespace Go.Proofs.YtjjggncbhenffaaGreatDoor
/-- A token: its kind (2 an element, 4 a text, 5 a comment, 6 a processing instruction, 7 an end), name, attributes, text. -/
structure XTok where
  kind : Nat
  name : List Nat
  attrs : List (List Nat × List Nat)
  text : List Nat
  deriving DecidableEq
/-- Where a reader stands: what it has passed, what lies ahead, the entities, what they came to, the elements that are open, the tokens, the text behind the last one and where that begins. -/
structure RS where
  pre : List Nat
  rest : List Nat
  ents : List (List Nat × List Nat)
  spent : Nat
  opn : List (List Nat)
  toks : List XTok
  run : List Nat
  runAt : Nat
  deriving DecidableEq
def RS.place (s : RS) : Nat := (tx s.pre).length
def RS.adv (s : RS) (n : Nat) : RS := { s with pre := s.pre ++ s.rest.take n, rest := s.rest.drop n }
/-- An error's number, and its place. -/
abbrev Er := Nat × Nat
/-- What stands ahead of some signs, and behind them. -/
def cutL (sign : List Nat) : List Nat → Option (List Nat × List Nat)
  | [] => none
  | c :: t => if sign.isPrefixOf (c :: t) then some ([], (c :: t).drop sign.length) else (cutL sign t).map fun x => (c :: x.1, x.2)
def RS.sees (s : RS) (sign : List Nat) : Bool := sign.isPrefixOf s.rest
def RS.take (s : RS) (sign : List Nat) : RS := if sign.isPrefixOf s.rest then s.adv sign.length else s
def RS.blanks (s : RS) : RS := s.adv (s.rest.takeWhile blankC).length
def RS.blank (s : RS) : Bool := !(s.rest.takeWhile blankC).isEmpty
def RS.takeTo (s : RS) (sign : List Nat) : Option (List Nat × RS) := (cutL sign s.rest).map fun x => (x.1, s.adv (x.1.length + sign.length))
def RS.name (s : RS) : RS := s.adv (nameA s.rest).length
def RS.qname (s : RS) : RS := s.adv (qnameA s.rest).length
def RS.quote (s : RS) : Option (Nat × RS) := if heads 34 s.rest then some (34, s.adv 1) else if heads 39 s.rest then some (39, s.adv 1) else none
def RS.quoted (s : RS) : Option (List Nat × RS) := match s.quote with
  | none => none
  | some (q, s1) => s1.takeTo [q]
def RS.equals (s : RS) : Option RS := if heads 61 s.blanks.rest then some (s.blanks.adv 1).blanks else none
/-- A token more, behind the text that stands there. -/
def RS.flush (s : RS) : RS := if s.run = [] then s else { s with toks := s.toks ++ [⟨4, [], [], s.run⟩], run := [] }
def RS.tell (s : RS) (t : XTok) (at' : Nat) : Except Er RS :=
  if s.flush.toks.length = 4096 then .error (6, at') else .ok { s.flush with runAt := s.place, toks := s.flush.toks ++ [t] }
def RS.room (s : RS) : Except Er RS := if s.run ≠ [] ∧ s.toks.length = 4096 then .error (6, s.runAt) else .ok s
/-- Comments and processing instructions. -/
def RS.comment (s : RS) : Option (List Nat × RS) := match (s.take [60, 33, 45, 45]).takeTo [45, 45] with
  | none => none
  | some (t, s1) => if heads 62 s1.rest then some (t, s1.adv 1) else none
def lowC (c : Nat) : Nat := if 65 ≤ c ∧ c ≤ 90 then c + 32 else c
def isTarget (n : List Nat) : Bool := isNm n && !(n.map lowC == [120, 109, 108])
def RS.instruction (s : RS) : Option (List Nat × List Nat × RS) :=
  let s1 := s.take [60, 63]
  let n := nameA s1.rest
  let s2 := s1.name
  if !isTarget n then none else
  if s2.sees [63, 62] then some (n, [], s2.adv 2) else
  if !s2.blank then none else
  (s2.blanks.takeTo [63, 62]).map fun x => (n, x.1, x.2)
def RS.tellComment (s : RS) : Except Er RS := match s.comment with
  | none => .error (5, s.place)
  | some (t, s1) => s1.tell ⟨5, [], [], t⟩ s.place
def RS.tellInstruction (s : RS) : Except Er RS := match s.instruction with
  | none => .error (5, s.place)
  | some (n, t, s1) => s1.tell ⟨6, n, [], t⟩ s.place
/-- References: a character or one of the five, or a name; and how many characters they take. -/
def digitX (c : Nat) : Option Nat := if 48 ≤ c ∧ c ≤ 57 then some (c - 48) else if 97 ≤ c ∧ c ≤ 102 then some (c - 87) else if 65 ≤ c ∧ c ≤ 70 then some (c - 55) else none
def numX (base : Nat) : Nat → Nat → List Nat → Option (Nat × Nat)
  | _, _, [] => none
  | n, k, c :: t => if c = 59 ∧ charR (n : Int) = true then some (n, k + 1) else
    match digitX c with
    | none => none
    | some d => if base ≤ d then none else numX base (min (n * base + d) 1114112) (k + 1) t
def five (n : List Nat) : List Nat := if n = [108, 116] then [60] else if n = [103, 116] then [62] else if n = [97, 109, 112] then [38] else
  if n = [97, 112, 111, 115] then [39] else if n = [113, 117, 111, 116] then [34] else []
structure Ref where
  said : List Nat
  name : List Nat
  size : Nat
  deriving DecidableEq
def readNum (base ahead : Nat) (l : List Nat) : Option Ref := (numX base 0 0 l).map fun x => ⟨[x.1], [], ahead + x.2⟩
def readRef (l : List Nat) : Option Ref :=
  if [38, 35, 120].isPrefixOf l then readNum 16 3 (l.drop 3) else
  if [38, 35].isPrefixOf l then readNum 10 2 (l.drop 2) else
  let n := nameA (l.drop 1)
  if !n.isEmpty && heads 59 (l.drop (n.length + 1)) then some ⟨five n, n, n.length + 2⟩ else none
def spaceC (c : Nat) : Nat := if blankC c then 32 else c
def flatL (flat : Bool) (l : List Nat) : List Nat := if flat then l.map spaceC else l
def spendX (opn : List (List Nat)) (spent n : Nat) : Except Nat Nat := if opn = [] then .ok spent else if 32768 < spent + n then .error 6 else .ok (spent + n)
def entX (ents : List (List Nat × List Nat)) (n : List Nat) : Option (List Nat) := (ents.find? fun x => x.1 == n).map (·.2)
/-- What an entity's text comes to, with the way of adding a reference. -/
def textX (add : Nat → Ref → Except Nat (List Nat × Nat)) (flat : Bool) (opn : List (List Nat)) : Nat → Nat → List Nat → Except Nat (List Nat × Nat)
  | 0, spent, _ => .ok ([], spent)
  | f + 1, spent, l =>
    if l = [] then .ok ([], spent) else
    let p := l.takeWhile (· != 38)
    match spendX opn spent (tx p).length with
    | .error e => .error e
    | .ok s1 =>
      if l.drop p.length = [] then .ok (flatL flat p, s1) else
      match readRef (l.drop p.length) with
      | none => .error 5
      | some r => match add s1 r with
        | .error e => .error e
        | .ok (t, s2) => match textX add flat opn f s2 ((l.drop p.length).drop r.size) with
          | .error e => .error e
          | .ok (u, s3) => .ok (flatL flat p ++ t ++ u, s3)
/-- What a reference comes to, with the entities that are open around it. -/
def addX (ents : List (List Nat × List Nat)) (flat : Bool) : Nat → List (List Nat) → Nat → Ref → Except Nat (List Nat × Nat)
  | 0, _, _, _ => .error 6
  | d + 1, opn, spent, r =>
    if r.said ≠ [] then match spendX opn spent ((tx r.said).length + 1) with
      | .error e => .error e
      | .ok s1 => .ok (r.said, s1)
    else match entX ents r.name with
      | none => .error 5
      | some t =>
        if 8 < opn.length ∨ opn.contains r.name = true then .error 6 else
        match spendX opn spent 1 with
        | .error e => .error e
        | .ok s1 => textX (addX ents flat d (opn ++ [r.name])) flat (opn ++ [r.name]) (t.length + 1) s1 t
def RS.reference (s : RS) (flat : Bool) : Except Er (List Nat × RS) := match readRef s.rest with
  | none => .error (5, s.place)
  | some r => match addX s.ents flat 10 [] s.spent r with
    | .error e => .error (e, s.place)
    | .ok (t, n) => .ok (t, { s.adv r.size with spent := n })
/-- Tags. -/
def plainC (q c : Nat) : Bool := c != 60 && c != 38 && c != q
def RS.valueGo (q tag : Nat) : Nat → RS → List Nat → Except Er (List Nat × RS)
  | 0, _, _ => .error (5, tag)
  | f + 1, s, text =>
    let p := s.rest.takeWhile (plainC q)
    let s1 := s.adv p.length
    if heads q s1.rest then .ok (text ++ p.map spaceC, s1.adv 1) else
    if heads 38 s1.rest then match s1.reference true with
      | .error e => .error e
      | .ok (t, s2) => RS.valueGo q tag f s2 (text ++ p.map spaceC ++ t)
    else .error (5, tag)
def RS.value (s : RS) (tag : Nat) : Except Er (List Nat × RS) := match s.quote with
  | none => .error (5, tag)
  | some (q, s1) => RS.valueGo q tag (s1.rest.length + 1) s1 []
def RS.attrsGo (tag : Nat) : Nat → RS → List (List Nat × List Nat) → Except Er (List (List Nat × List Nat) × RS)
  | 0, _, _ => .error (5, tag)
  | f + 1, s, acc =>
    let s1 := s.blanks
    if !s.blank || (heads 47 s1.rest || heads 62 s1.rest) then .ok (acc, s1) else
    let n := qnameA s1.rest
    let s2 := s1.qname
    if n = [] ∨ (acc.map (·.1)).contains n = true then .error (5, tag) else
    match s2.equals with
    | none => .error (5, tag)
    | some s3 => match s3.value tag with
      | .error e => .error e
      | .ok (v, s4) => RS.attrsGo tag f s4 (acc ++ [(n, v)])
def RS.attributes (s : RS) (tag : Nat) : Except Er (List (List Nat × List Nat) × RS) := RS.attrsGo tag (s.rest.length + 1) s []
def RS.startTag (s : RS) : Except Er RS :=
  let s1 := s.take [60]
  let n := qnameA s1.rest
  let s2 := s1.qname
  if n = [] then .error (5, s.place) else
  match s2.attributes s.place with
  | .error e => .error e
  | .ok (a, s3) =>
    let s4 := s3.take [47]
    if !heads 62 s4.rest then .error (5, s.place) else
    let s5 := s4.adv 1
    if s5.opn.length = 32 ∨ 64 < a.length then .error (6, s.place) else
    match s5.tell ⟨2, n, a, []⟩ s.place with
    | .error e => .error e
    | .ok s6 => if heads 47 s3.rest then s6.tell ⟨7, n, [], []⟩ s.place else .ok { s6 with opn := s6.opn ++ [n] }
def RS.endTag (s : RS) : Except Er RS :=
  let s1 := s.take [60, 47]
  let n := qnameA s1.rest
  let s2 := s1.qname.blanks
  if s.opn.getLast? = some n ∧ heads 62 s2.rest = true then { s2.adv 1 with opn := s.opn.dropLast }.tell ⟨7, n, [], []⟩ s.place else .error (5, s.place)
/-- Content. -/
def ahead (sign l : List Nat) : List Nat := match cutL sign l with | none => l | some x => x.1
def plainA (l : List Nat) : List Nat := ahead [93, 93, 62] (ahead [38] (ahead [60] l))
def RS.plain (s : RS) : Except Er RS := { s.adv (plainA s.rest).length with run := s.run ++ plainA s.rest }.room
def RS.section' (s : RS) : Except Er RS := match (s.take [60, 33, 91, 67, 68, 65, 84, 65, 91]).takeTo [93, 93, 62] with
  | none => .error (5, s.place)
  | some (t, s1) => { s1 with run := s.run ++ t }.room
def RS.refRun (s : RS) : Except Er RS := match s.reference false with
  | .error e => .error e
  | .ok (t, s1) => { s1 with run := s.run ++ t }.room
def RS.contentOne (s : RS) : Except Er RS :=
  if s.sees [60, 47] then s.endTag else
  if s.sees [60, 33, 45, 45] then s.tellComment else
  if s.sees [60, 33, 91, 67, 68, 65, 84, 65, 91] then s.section' else
  if s.sees [60, 63] then s.tellInstruction else
  if s.sees [60] then s.startTag else
  if s.sees [38] then s.refRun else
  if s.rest ≠ [] ∧ s.sees [93, 93, 62] = false then s.plain else .error (5, s.place)
def RS.content : Nat → RS → Except Er RS
  | 0, s => .ok s
  | f + 1, s => if s.opn = [] then .ok s else match s.contentOne with
    | .error e => .error e
    | .ok s1 => RS.content f s1
/-- The declaration at the very beginning. -/
def isVersion (l : List Nat) : Bool := [49, 46].isPrefixOf l && (!(l.drop 2).isEmpty && (l.drop 2).all digC)
def letterC (c : Nat) : Bool := (decide (97 ≤ c) && decide (c ≤ 122)) || (decide (65 ≤ c) && decide (c ≤ 90))
def encC (c : Nat) : Bool := letterC c || (digC c || (c == 46 || (c == 95 || c == 45)))
def isEncoding (l : List Nat) : Bool := match l with | [] => false | c :: t => letterC c && t.all encC
def isChoice (l : List Nat) : Bool := l == [121, 101, 115] || l == [110, 111]
def RS.setting (s : RS) (n : List Nat) (right : List Nat → Bool) : Option RS :=
  if !s.sees n then none else match (s.adv n.length).equals with
  | none => none
  | some s1 => match s1.quoted with
    | none => none
    | some (v, s2) => if right v then some s2 else none
def RS.settingIf (s : RS) (spaced : Bool) (n : List Nat) (right : List Nat → Bool) : Option (Bool × RS) :=
  if spaced && s.sees n then (s.setting n right).map fun x => (x.blank, x.blanks) else some (spaced, s)
def RS.settings (s : RS) : Option RS :=
  let s0 := s.adv 5
  if !s0.blank then none else
  match s0.blanks.setting [118, 101, 114, 115, 105, 111, 110] isVersion with
  | none => none
  | some s1 => match s1.blanks.settingIf s1.blank [101, 110, 99, 111, 100, 105, 110, 103] isEncoding with
    | none => none
    | some (sp, s2) => match s2.settingIf sp [115, 116, 97, 110, 100, 97, 108, 111, 110, 101] isChoice with
      | none => none
      | some (_, s3) => if s3.sees [63, 62] then some (s3.adv 2) else none
/-- The document type, and its declarations. -/
def refsOk : List Nat → Bool
  | [] => true
  | c :: t => (c != 38 || (readRef (c :: t)).isSome) && refsOk t
def isEntText (l : List Nat) : Bool := (l.all fun c => c != 60 && c != 37) && refsOk l
def RS.entity (s : RS) : Option RS :=
  if !s.blank then none else
  let s1 := s.blanks
  let n := nameA s1.rest
  let s2 := s1.name
  if n.isEmpty || !s2.blank then none else
  match s2.blanks.quoted with
  | none => none
  | some (t, s3) =>
    if !isEntText t then none else
    let s4 := s3.blanks
    if !heads 62 s4.rest then none else
    some (if (entX s.ents n).isSome then s4.adv 1 else { s4.adv 1 with ents := s.ents ++ [(n, t)] })
def RS.declOne (s : RS) : Option RS :=
  if s.sees [60, 33, 45, 45] then s.comment.map (·.2) else
  if s.sees [60, 63] then s.instruction.map (·.2.2) else
  if s.sees [60, 33, 69, 78, 84, 73, 84, 89] then (s.adv 8).entity else none
def RS.declGo : Nat → RS → Except Er RS
  | 0, s => .error (5, s.place)
  | f + 1, s =>
    let s1 := s.blanks
    if heads 93 s1.rest then .ok (s1.adv 1) else
    match s1.declOne with
    | none => .error (5, s1.place)
    | some s2 => RS.declGo f s2
def RS.doctype (s : RS) : Except Er RS :=
  let s1 := s.take [60, 33, 68, 79, 67, 84, 89, 80, 69]
  if !s1.blank || (qnameA s1.blanks.rest).isEmpty then .error (5, s.place) else
  let s2 := s1.blanks.qname.blanks
  match (if heads 91 s2.rest then RS.declGo ((s2.adv 1).rest.length + 1) (s2.adv 1) else .ok s2) with
  | .error e => .error e
  | .ok s3 => if heads 62 s3.blanks.rest then .ok (s3.blanks.adv 1) else .error (5, s.place)
/-- The whole text. -/
def RS.docGo : Nat → Bool → Bool → RS → Except Er RS
  | 0, _, _, s => .error (5, s.place)
  | f + 1, typed, rooted, s0 =>
    let s := s0.blanks
    if s.sees [60, 33, 45, 45] then match s.tellComment with
      | .error e => .error e
      | .ok s1 => RS.docGo f typed rooted s1
    else if s.sees [60, 63] then match s.tellInstruction with
      | .error e => .error e
      | .ok s1 => RS.docGo f typed rooted s1
    else if s.sees [60, 33, 68, 79, 67, 84, 89, 80, 69] && (!typed && !rooted) then match s.doctype with
      | .error e => .error e
      | .ok s1 => RS.docGo f true rooted s1
    else if s.sees [60] && !rooted then match s.startTag with
      | .error e => .error e
      | .ok s1 => match RS.content (s1.rest.length + 1) s1 with
        | .error e => .error e
        | .ok s2 => RS.docGo f typed true s2
    else if s.rest ≠ [] ∨ rooted = false then .error (5, s.place) else .ok s
def RS.start (cs : List Nat) : RS := ⟨[], cs, [], 0, [], [], [], 0⟩
def RS.document (s : RS) : Except Er RS :=
  if [60, 63].isPrefixOf s.rest && nameA (s.rest.drop 2) == [120, 109, 108] then match s.settings with
    | none => .error (5, 0)
    | some s1 => RS.docGo (s1.rest.length + 1) false false s1
  else RS.docGo (s.rest.length + 1) false false s
/-- What a text's tokens are, or its error and the error's place. -/
def scanX (cs : List Nat) : Except Er (List XTok) := match (RS.start cs).document with
  | .error e => .error e
  | .ok s => .ok s.toks
end Go.Proofs.YtjjggncbhenffaaGreatDoor
/- Trees, over lists of characters: what xdm's functions tell of a document's tokens, in plain terms. -/
namespace Go.Proofs.YtjjggncbhenffaaGreatDoor
/-- What prefixes stand for: by the prefixes' bytes, no prefix twice. -/
abbrev Sc := List (List Nat × List Nat)
def insS (x : List Nat × List Nat) : Sc → Sc
  | [] => [x]
  | y :: r => if bytesBefore (tx x.1) (tx y.1) then x :: y :: r else y :: insS x r
def delS (s : Sc) (p : List Nat) : Sc := s.filter fun y => !(y.1 == p)
def setS (s : Sc) (p u : List Nat) : Sc := insS (p, u) (delS s p)
def lookS (s : Sc) (p : List Nat) : Option (List Nat) := (s.find? fun y => y.1 == p).map (·.2)
def xmlL : List Nat := [120, 109, 108]
def xmlnsL : List Nat := [120, 109, 108, 110, 115]
def xmlUriL : List Nat := [104, 116, 116, 112, 58, 47, 47, 119, 119, 119, 46, 119, 51, 46, 111, 114, 103, 47, 88, 77, 76, 47, 49, 57, 57, 56, 47, 110, 97, 109, 101, 115, 112, 97, 99, 101]
/-- The prefix that an attribute of a name declares. -/
def declD (n : List Nat) : Option (List Nat) := if n = xmlnsL then some [] else if (xmlnsL ++ [58]).isPrefixOf n then some (n.drop 6) else none
def mayD (p u : List Nat) : Bool := if p = xmlnsL then false else if p = xmlL then u == xmlUriL else if p = [] then !(u == xmlUriL) else !(u == []) && !(u == xmlUriL)
def declareD (s : Sc) (p u : List Nat) : Sc := if p = xmlL then s else if u = [] then delS s p else setS s p u
def withD : Sc → List (List Nat × List Nat) → Option Sc
  | s, [] => some s
  | s, x :: l => match declD x.1 with
    | none => withD s l
    | some p => if mayD p x.2 then withD (declareD s p x.2) l else none
/-- A name, expanded: what its prefix stands for, the prefix, the local name. -/
structure Nm where
  uri : List Nat
  pre : List Nat
  loc : List Nat
  deriving DecidableEq
def splitQ (q : List Nat) : List Nat × List Nat := if q.contains 58 then (q.takeWhile (· != 58), (q.dropWhile (· != 58)).tail) else ([], q)
def expandD (s : Sc) (q : List Nat) : Option Nm :=
  if (splitQ q).1 = xmlL then some ⟨xmlUriL, (splitQ q).1, (splitQ q).2⟩ else match lookS s (splitQ q).1 with
  | some u => some ⟨u, (splitQ q).1, (splitQ q).2⟩
  | none => if (splitQ q).1 = [] then some ⟨[], [], (splitQ q).2⟩ else none
def expandA (s : Sc) (q : List Nat) : Option Nm := if isNm q then some ⟨[], [], q⟩ else expandD s q
structure XNode where
  kind : Nat
  name : Nm
  text : List Nat
  parent : Int
  fin : Nat
  deep : Nat
  scope : Sc
  deriving DecidableEq
def nm0 : Nm := ⟨[], [], []⟩
def attrN (n : Nm) (t : List Nat) : XNode := ⟨3, n, t, 0, 0, 0, []⟩
/-- The nodes of a tag's attributes, without declarations. -/
def attrsN (s : Sc) : List (List Nat × List Nat) → Option (List XNode)
  | [] => some []
  | x :: l => match declD x.1 with
    | some _ => attrsN s l
    | none => match expandA s x.1 with
      | none => none
      | some n => (attrsN s l).map fun r => attrN n x.2 :: r
def keyN (x : XNode) : List Nat × List Nat := (x.name.uri, x.name.loc)
def attributesD (s : Sc) (l : List (List Nat × List Nat)) : Except Nat (List XNode) := match attrsN s l with
  | none => .error 7
  | some r => if (r.map keyN).Nodup then .ok r else .error 8
/-- Nodes one behind the other, and the numbers of those that are open. -/
structure BS where
  nodes : List XNode
  opn : List Nat
def BS.begin (s : BS) (x : XNode) : BS := ⟨s.nodes ++ [x], s.opn ++ [s.nodes.length]⟩
def BS.inner (s : BS) : Nat := s.opn.getLastD 0
def BS.finish (s : BS) : BS := ⟨s.nodes.modify s.inner fun x => { x with fin := s.nodes.length }, s.opn.dropLast⟩
def BS.placed (s : BS) (x : XNode) : XNode := { x with deep := s.opn.length, parent := (s.inner : Nat) }
def BS.leaf (s : BS) (x : XNode) : BS := (s.begin (s.placed x)).finish
def BS.scope (s : BS) : Sc := match s.nodes[s.inner]? with | some x => x.scope | none => []
def BS.elementAt (s : BS) (sc : Sc) (t : XTok) : Except Nat BS := match withD sc t.attrs with
  | none => .error 7
  | some inner => match expandD inner t.name with
    | none => .error 7
    | some n => match attributesD inner t.attrs with
      | .error e => .error e
      | .ok ns => .ok (ns.foldl BS.leaf (s.begin (s.placed ⟨2, n, [], 0, 0, 0, inner⟩)))
def BS.element (s : BS) (t : XTok) : Except Nat BS := s.elementAt s.scope t
def BS.add (s : BS) (t : XTok) : Except Nat BS :=
  if t.kind = 2 then s.element t else if t.kind = 7 then .ok s.finish else
  if t.kind = 6 then .ok (s.leaf ⟨6, ⟨[], [], t.name⟩, t.text, 0, 0, 0, []⟩) else .ok (s.leaf ⟨t.kind, nm0, t.text, 0, 0, 0, []⟩)
def BS.adds : BS → List XTok → Except Nat BS
  | s, [] => .ok s
  | s, t :: l => match s.add t with
    | .error e => .error e
    | .ok s1 => s1.adds l
def rootN : XNode := ⟨1, nm0, [], -1, 0, 0, []⟩
def BS.start : BS := (⟨[], []⟩ : BS).begin rootN
/-- The tree of a document's tokens, or the error. -/
def treeD (ts : List XTok) : Except Nat (List XNode) := match BS.start.adds ts with
  | .error e => .error e
  | .ok s => .ok s.finish.nodes
/-- The tree of a text, or the error. -/
def parseD (cs : List Nat) : Except Nat (List XNode) := match scanX cs with
  | .error e => .error e.1
  | .ok ts => treeD ts
end Go.Proofs.YtjjggncbhenffaaGreatDoor
