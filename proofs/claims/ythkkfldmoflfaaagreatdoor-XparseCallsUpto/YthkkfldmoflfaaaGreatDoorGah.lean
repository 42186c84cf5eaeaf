/- Several texts, laid as one. -/
import Derived.Test.YthkkfldmoflfaaaGreatDoorGaf
import Derived.Lib.DecodeN
import Derived.Test.YthkkfldmoflfaaaGreatDoorGad
import Derived.Lib.RuneCountTail
import Derived.Test.YthkkfldmoflfaaaGreatDoorGag
import Derived.Test.YthkkfldmoflfaaaGreatDoorGaa
import Derived.Test.YthkkfldmoflfaaaGreatDoorLexSame
/- What is decoded of a text, byte by byte: plain lemmas. -/
namespace Go.Proofs.YthkkfldmoflfaaaGreatDoor
open Go.RowKit
theorem get_data (s : ByteArray) (i : Nat) (h : i < s.size) : s.get! i = s.data.toList[i]'h := by
  show s.data[i]! = _
  rw [getElem!_pos s.data i h]; rfl
/-- What is decoded at a place: a byte below 128 is itself, of width 1; bytes behind the first are 128 or above; none lies beyond the end. -/
theorem decode_bytes (s : ByteArray) (pos : Nat) (hp : pos < s.size) :
    ((s.get! pos).toNat < 128 → Utf8.decode s pos = ((s.get! pos).toNat, 1)) ∧ (∀ k, 1 ≤ k → k < (Utf8.decode s pos).2 → 128 ≤ (s.get! (pos + k)).toNat) ∧ pos + (Utf8.decode s pos).2 ≤ s.size := by
  rw [Lib.decode_at]
  generalize (s.get! pos).toNat = b0
  generalize h1 : (s.get! (pos + 1)).toNat = b1
  generalize h2 : (s.get! (pos + 2)).toNat = b2
  generalize h3 : (s.get! (pos + 3)).toNat = b3
  refine ⟨fun h => by unfold Lib.decodeN; rw [if_pos h], fun k hk hk' => ?_, ?_⟩
  · have key : (k = 1 ∧ 128 ≤ b1) ∨ (k = 2 ∧ 128 ≤ b2) ∨ (k = 3 ∧ 128 ≤ b3) := by
      revert hk'
      unfold Lib.decodeN
      repeat' split
      all_goals (intro hk'; simp only at hk'; omega)
    rcases key with ⟨rfl, h⟩ | ⟨rfl, h⟩ | ⟨rfl, h⟩
    · rw [h1]; exact h
    · rw [h2]; exact h
    · rw [h3]; exact h
  · unfold Lib.decodeN
    repeat' split
    all_goals (simp only; omega)
end Go.Proofs.YthkkfldmoflfaaaGreatDoor
/- Which characters may be: the reference's IsChar. -/
namespace Go.Proofs.YthkkfldmoflfaaaGreatDoor
open Go.RowKit
set_option maxHeartbeats 400000 in
theorem refIsChar_any (r : Int) (w : World) :
    Calls Tryz.prog 66 #[.int .i32 r] w fun e w' => e = .returned (.bool (charR r)) ∧ w' = w := by
  go_enter Tryz.func66, Tryz.ntmps66
  go_wp2
  all_goals
    go_ret
    refine ⟨ret_bool ?_, rfl⟩
    rw [Bool.eq_iff_iff]
    simp [charR]
    try omega
end Go.Proofs.YthkkfldmoflfaaaGreatDoor
/- The first byte that is no part of a character that may be: the reference's Bad and IsText. -/
namespace Go.Proofs.YthkkfldmoflfaaaGreatDoor
open Go.RowKit
/-- The first byte that is no part of a character that may be, from a place on; is it no part of a character at all? -/
def badFrom (s : ByteArray) : Nat → Nat → Int × Bool
  | 0, _ => (-1, false)
  | f + 1, pos => if pos < s.size then
      (if ((Utf8.decode s pos).1 : Int) == 65533 && ((Utf8.decode s pos).2 : Int) == 1 then ((pos : Int), true)
       else if charR (Utf8.decode s pos).1 then badFrom s f (pos + (Utf8.decode s pos).2) else ((pos : Int), false))
    else (-1, false)
theorem decodeRune_at (s : ByteArray) (pos : Nat) (w : World) (hp : pos < s.size) (hE : Env w) :
    Calls Tryz.prog 18 #[.string (s.extract pos s.size)] w fun e w' => e = .returned (.tuple #[.int .i32 (Utf8.decode s pos).1, .int .i64 (Utf8.decode s pos).2]) ∧ Below w.heap.size w w' := by
  have e : Lib.decodeGo (s.extract pos s.size) = Utf8.decode s pos := by
    unfold Lib.decodeGo
    rw [if_neg (by rw [ByteArray.size_extract]; omega), Lib.tail_decode, Nat.add_zero]
  have := Tryz.utf8_DecodeRuneInString (s.extract pos s.size) w hE.tabs
  rw [e] at this
  exact this
theorem badFrom_step (s : ByteArray) (f pos : Nat) (hp : pos < s.size) (hb : s.size < pos + f) : ∃ g, f = g + 1 ∧ badFrom s f pos =
    (if ((Utf8.decode s pos).1 : Int) == 65533 && ((Utf8.decode s pos).2 : Int) == 1 then ((pos : Int), true)
       else if charR (Utf8.decode s pos).1 then badFrom s g (pos + (Utf8.decode s pos).2) else ((pos : Int), false)) := by
  cases f with
  | zero => omega
  | succ g => exact ⟨g, rfl, by rw [badFrom, if_pos hp]⟩
theorem badFrom_end (s : ByteArray) (f pos : Nat) (hp : ¬ pos < s.size) : badFrom s f pos = (-1, false) := by
  cases f with
  | zero => rfl
  | succ g => rw [badFrom, if_neg hp]
theorem ret_bad {x : Int × Bool} {a : Int} {b : Bool} (h : x = (a, b)) : Ending.returned (.tuple #[.int .i64 a, .bool b]) = .returned (.tuple #[.int .i64 x.1, .bool x.2]) := by rw [h]
set_option maxHeartbeats 1000000 in
theorem refBad_any (s : ByteArray) (w : World) (hs : s.size ≤ 4294967280) (hE : Env w) :
    Calls Tryz.prog 34 #[.string s] w fun e w' => e = .returned (.tuple #[.int .i64 (badFrom s (s.size + 1) 0).1, .bool (badFrom s (s.size + 1) 0).2]) ∧ Below w.heap.size w w' := by
  have HE := hide hE
  clear hE
  go_enter Tryz.func34, Tryz.ntmps34
  go_wp2_with fail
  go_loopw [4] (fun i wr => ∃ (pos f : Nat), i = .int .i64 pos ∧ pos ≤ s.size ∧ Below w.heap.size w wr ∧ badFrom s (s.size + 1) 0 = badFrom s f pos ∧ s.size < pos + f) (fun i wr => s.size - (intOf i).toNat)
  case atStart => exact ⟨0, s.size + 1, rfl, Nat.zero_le _, Below.refl _ _, rfl, by omega⟩
  case round =>
    obtain ⟨pos, f, rfl, hps, hbr, hf, hfu⟩ := hrel
    by_cases hp : pos < s.size
    · have hwd := width_pos s pos hp
      obtain ⟨_, _, hwe⟩ := decode_bytes s pos hp
      obtain ⟨g, rfl, hg⟩ := badFrom_step s f pos hp hfu
      have HF := hide (hf.trans hg)
      clear hf hg
      go_wp2_with fail
      refine (decodeRune_at s pos _ hp ((unhide HE).below hbr)).mono ?_
      rintro e w1 ⟨rfl, hb1⟩
      generalize hd : Utf8.decode s pos = d at *
      clear hd
      go_wp2_with (go_at_call 66; refine (refIsChar_any _ _).mono ?_; rintro e w' ⟨rfl, rfl⟩)
      all_goals first
        | (go_ret2
           refine ⟨ret_bad ?_, Below.then hbr hb1⟩
           rw [unhide HF]
           simp_all)
        | (refine ⟨⟨pos + d.2, g, by go_num, hwe, Below.then hbr hb1, ?_, by omega⟩, by simp [intOf]; omega⟩
           rw [unhide HF]
           simp_all)
    · have HF := hide (hf.trans (badFrom_end s f pos hp))
      clear hf
      go_wp2
      go_ret2
      exact ⟨ret_bad (unhide HF), hbr⟩
def textR (s : ByteArray) : Bool := decide ((badFrom s (s.size + 1) 0).1 < 0)
set_option maxHeartbeats 1000000 in
theorem refIsText_any (s : ByteArray) (w : World) (hs : s.size ≤ 4294967280) (hE : Env w) :
    Calls Tryz.prog 17 #[.string s] w fun e w' => e = .returned (.bool (textR s)) ∧ Below w.heap.size w w' := by
  have HE := hide hE
  clear hE
  go_enter Tryz.func17, Tryz.ntmps17
  go_wp2_with fail
  refine (refBad_any s _ hs (unhide HE)).mono ?_
  rintro e w1 ⟨rfl, hb1⟩
  go_wp2
  all_goals
    go_ret
    exact ⟨ret_bool (by simp [textR, *]), hb1⟩
end Go.Proofs.YthkkfldmoflfaaaGreatDoor
/- What the program takes for a fault is what the reference takes for one: plain lemmas. -/
namespace Go.Proofs.YthkkfldmoflfaaaGreatDoor
open Go.RowKit
theorem mark_iff (s : ByteArray) (pos : Nat) : markAt s pos = true ↔ pos + 2 < s.size ∧ (s.get! pos).toNat = 239 ∧ (s.get! (pos + 1)).toNat = 191 ∧ (s.get! (pos + 2)).toNat = 189 := by
  have hl : s.data.toList.length = s.size := rfl
  unfold markAt Lib.hasPrefix
  rw [List.isPrefixOf_iff_prefix, List.prefix_iff_eq_take]
  constructor
  · intro h
    have h3 : pos + 2 < s.size := by
      have := congrArg List.length h
      simp only [List.length_take, List.length_drop, List.length_cons, List.length_nil, hl] at this
      omega
    have g : ∀ k (hk : k < 3), (s.data.toList[pos + k]'(by omega)) = [239, 191, 189][k]'hk := fun k hk => by
      have := congrArg (·[k]?) h
      simp only [List.getElem?_take, List.getElem?_drop, List.length_cons, List.length_nil, hk, if_true] at this
      rw [List.getElem?_eq_getElem (by simpa using hk), List.getElem?_eq_getElem (by omega)] at this
      exact (Option.some.inj this).symm
    refine ⟨h3, ?_, ?_, ?_⟩
    · rw [get_data s pos (by omega)]; have := g 0 (by decide); simp only [Nat.add_zero] at this; rw [this]; rfl
    · rw [get_data s (pos + 1) (by omega), g 1 (by decide)]; rfl
    · rw [get_data s (pos + 2) (by omega), g 2 (by decide)]; rfl
  · rintro ⟨h3, h0, h1, h2⟩
    rw [get_data s pos (by omega)] at h0
    rw [get_data s (pos + 1) (by omega)] at h1
    rw [get_data s (pos + 2) (by omega)] at h2
    rw [List.drop_eq_getElem_cons (by omega), List.drop_eq_getElem_cons (by omega), List.drop_eq_getElem_cons (by omega)]
    simp only [List.length_cons, List.length_nil, List.take_succ_cons, List.take_zero]
    rw [UInt8.toNat_inj.1 (show _ = (239 : UInt8).toNat from h0), UInt8.toNat_inj.1 (show _ = (191 : UInt8).toNat from h1), UInt8.toNat_inj.1 (show _ = (189 : UInt8).toNat from h2)]
/-- The replacement character is decoded of its own three bytes, or of one byte that is none. -/
theorem mark_width (s : ByteArray) (pos : Nat) (h : (Utf8.decode s pos).1 = 65533) : (!markAt s pos) = ((Utf8.decode s pos).2 == 1) := by
  have b0 := (s.get! pos).toNat_lt
  have b1 := (s.get! (pos + 1)).toNat_lt
  have b2 := (s.get! (pos + 2)).toNat_lt
  have hm := mark_iff s pos
  revert h
  rw [Lib.decode_at]
  intro h
  generalize (s.get! pos).toNat = x0 at *
  generalize (s.get! (pos + 1)).toNat = x1 at *
  generalize (s.get! (pos + 2)).toNat = x2 at *
  generalize (s.get! (pos + 3)).toNat = x3 at *
  have key : ((Lib.decodeN (s.size - pos) x0 x1 x2 x3).2 = 1 ∧ ¬ (pos + 2 < s.size ∧ x0 = 239 ∧ x1 = 191 ∧ x2 = 189)) ∨ ((Lib.decodeN (s.size - pos) x0 x1 x2 x3).2 ≠ 1 ∧ (pos + 2 < s.size ∧ x0 = 239 ∧ x1 = 191 ∧ x2 = 189)) := by
    revert h
    unfold Lib.decodeN
    repeat' split
    all_goals (intro h; first | (exfalso; simp only at h; omega) | (left; refine ⟨rfl, ?_⟩; omega) | (right; refine ⟨by simp only; omega, ?_⟩; simp only at h; omega))
  rcases key with ⟨k1, k2⟩ | ⟨k1, k2⟩
  · rw [k1]
    cases hc : markAt s pos
    · rfl
    · exact absurd (hm.1 hc) k2
  · rw [hm.2 k2]
    simp [k1]
theorem text_eq (s : ByteArray) : ∀ f pos, ((faultFrom s f pos).1 == 0) = decide ((badFrom s f pos).1 < 0)
  | 0, pos => rfl
  | f + 1, pos => by
    have hd := decode_le s pos
    unfold faultFrom badFrom
    by_cases hp : pos < s.size
    · rw [if_pos hp, if_pos hp]
      by_cases h : (Utf8.decode s pos).1 = 65533
      · rw [mark_width s pos h, h]
        by_cases hw : (Utf8.decode s pos).2 = 1
        · simp [hw]
        · have ih := text_eq s f (pos + (Utf8.decode s pos).2)
          have hc : charB ((65533 : Nat) : Int) = true := by decide +kernel
          have hc' : charR ((65533 : Nat) : Int) = true := by decide +kernel
          have hw' : (((Utf8.decode s pos).2 : Int) == 1) = false := by simp; omega
          have hw'' : ((Utf8.decode s pos).2 == 1) = false := by simpa using hw
          simp only [hc, hc', hw', hw'', Bool.and_false, if_true, Bool.false_eq_true, if_false]
          exact ih
      · have h' : (((Utf8.decode s pos).1 : Int) == 65533) = false := by simp; omega
        rw [charB_eq _ (by omega)]
        simp only [h', Bool.false_and, Bool.false_eq_true, if_false]
        cases hc : charR (Utf8.decode s pos).1
        · simp
        · simpa using text_eq s f (pos + (Utf8.decode s pos).2)
    · rw [if_neg hp, if_neg hp]; rfl
end Go.Proofs.YthkkfldmoflfaaaGreatDoor
/- Texts, as characters one behind the other, in UTF-8: plain lemmas. -/
namespace Go.Proofs.YthkkfldmoflfaaaGreatDoor
open Go.RowKit
theorem charB_dec (s : ByteArray) (pos : Nat) : charB ((Utf8.decode s pos).1 : Nat) = charR ((Utf8.decode s pos).1 : Nat) :=
  charB_eq _ (by have := rune_le s pos; omega)
theorem txt_nil : Txt [] := ⟨[], by simp, rfl⟩
theorem txt_cons {r : Nat} {t : List UInt8} (hr : charR (r : Int) = true) (h : Txt t) : Txt (runeB r ++ t) := by
  obtain ⟨rs, h1, rfl⟩ := h
  exact ⟨r :: rs, fun x hx => by rcases List.mem_cons.1 hx with rfl | hx; exact hr; exact h1 x hx, rfl⟩
theorem txt_head {l : List UInt8} (h : Txt l) (hl : l ≠ []) : charR ((Lib.decodeL l).1 : Nat) = true ∧ l = runeB (Lib.decodeL l).1 ++ l.drop (Lib.decodeL l).2 ∧ Txt (l.drop (Lib.decodeL l).2) ∧ ¬ ((Lib.decodeL l).1 = 65533 ∧ (Lib.decodeL l).2 = 1) := by
  obtain ⟨rs, h1, rfl⟩ := h
  cases rs with
  | nil => exact absurd rfl hl
  | cons r rs =>
    have hr := h1 r (by simp)
    have e : (r :: rs).flatMap runeB = runeB r ++ rs.flatMap runeB := rfl
    rw [e, dec_rune r (charR_ok hr)]
    simp only [List.drop_left]
    refine ⟨hr, trivial, ⟨rs, fun x hx => h1 x (by simp [hx]), rfl⟩, ?_⟩
    rintro ⟨rfl, hh⟩
    exact absurd hh (by decide +kernel)
theorem drop_nil (s : ByteArray) (pos : Nat) (h : ¬ pos < s.size) : s.data.toList.drop pos = [] := List.drop_eq_nil_of_le (by show s.size ≤ pos; omega)
theorem drop_ne (s : ByteArray) (pos : Nat) (h : pos < s.size) : s.data.toList.drop pos ≠ [] := by
  intro e
  have := congrArg List.length e
  rw [List.length_drop] at this
  have h' : s.data.toList.length = s.size := rfl
  simp at this
  omega
theorem fault_txt (s : ByteArray) : ∀ f pos, s.size < pos + f → ((faultFrom s f pos).1 = 0 ↔ Txt (s.data.toList.drop pos))
  | 0, pos, h => by
    rw [drop_nil s pos (by omega)]
    exact ⟨fun _ => txt_nil, fun _ => rfl⟩
  | f + 1, pos, h => by
    by_cases hp : pos < s.size
    · rw [faultFrom, if_pos hp, charB_dec]
      have hne := drop_ne s pos hp
      have hw := width_pos s pos hp
      have hmw := mark_width s pos
      have hrd := rune_dec _ hne
      have hth := fun hx => txt_head (l := s.data.toList.drop pos) hx hne
      rw [Lib.decodeL_drop] at hrd hth
      rw [List.drop_drop] at hrd hth
      have ih := fault_txt s f (pos + (Utf8.decode s pos).2) (by omega)
      generalize Utf8.decode s pos = d at *
      by_cases hb : d.1 = 65533 ∧ d.2 = 1
      · have e : (((d.1 : Nat) : Int) == 65533 && !markAt s pos) = true := by rw [hmw hb.1, hb.1, hb.2]; rfl
        rw [if_pos e]
        exact ⟨fun h => absurd h (by simp), fun h => absurd hb (hth h).2.2.2⟩
      · have e : ¬ (((d.1 : Nat) : Int) == 65533 && !markAt s pos) = true := by
          intro h
          rw [Bool.and_eq_true] at h
          have h1 : d.1 = 65533 := by have := beq_iff_eq.1 h.1; omega
          rw [hmw h1] at h
          exact hb ⟨h1, beq_iff_eq.1 h.2⟩
        rw [if_neg e]
        obtain ⟨ho, heq⟩ := hrd hb
        by_cases hc : charR ((d.1 : Nat) : Int) = true
        · rw [if_pos hc, ih]
          exact ⟨fun h => by rw [heq]; exact txt_cons hc h, fun h => (hth h).2.2.1⟩
        · rw [if_neg hc]
          exact ⟨fun h => absurd h (by simp), fun h => absurd (hth h).1 hc⟩
    · rw [faultFrom, if_neg hp, drop_nil s pos hp]
      exact ⟨fun _ => txt_nil, fun _ => rfl⟩
end Go.Proofs.YthkkfldmoflfaaaGreatDoor
/- Texts as lists of characters: their bytes, what is cut off them, what is decoded at a place: plain lemmas. -/
namespace Go.Proofs.YthkkfldmoflfaaaGreatDoor
open Go.RowKit
/-- A list of characters as bytes, as a text. -/
def tx (l : List Nat) : List UInt8 := l.flatMap runeB
def T (l : List Nat) : ByteArray := ⟨(tx l).toArray⟩
def okL (l : List Nat) : Prop := ∀ c ∈ l, charR (c : Int) = true
theorem tx_nil : tx [] = [] := rfl
theorem tx_cons (c : Nat) (l : List Nat) : tx (c :: l) = runeB c ++ tx l := rfl
theorem tx_append (a b : List Nat) : tx (a ++ b) = tx a ++ tx b := by unfold tx; rw [List.flatMap_append]
theorem T_data (l : List Nat) : (T l).data.toList = tx l := by unfold T; simp
theorem T_toList (l : List Nat) : (T l).toList = tx l := by rw [toList_data, T_data]
theorem T_size (l : List Nat) : (T l).size = (tx l).length := rfl
theorem okL_left {a b : List Nat} (h : okL (a ++ b)) : okL a := fun c hc => h c (List.mem_append_left _ hc)
theorem okL_right {a b : List Nat} (h : okL (a ++ b)) : okL b := fun c hc => h c (List.mem_append_right _ hc)
theorem okL_tail {c : Nat} {l : List Nat} (h : okL (c :: l)) : okL l := fun x hx => h x (List.mem_cons_of_mem _ hx)
theorem okL_drop {l : List Nat} (h : okL l) (n : Nat) : okL (l.drop n) := fun c hc => h c (List.mem_of_mem_drop hc)
theorem okL_pre {a l : List Nat} (h : okL l) (hp : a <+: l) : okL a := fun c hc => h c (hp.subset hc)
theorem okL_app {a b : List Nat} (ha : okL a) (hb : okL b) : okL (a ++ b) := fun c hc => by
  rcases List.mem_append.1 hc with h | h
  · exact ha c h
  · exact hb c h
theorem runeB_pos {c : Nat} (h : charR (c : Int) = true) : 1 ≤ (runeB c).length := by
  obtain ⟨x, t, e, _⟩ := runeB_first (charR_ok h)
  rw [e]; simp
theorem tx_len_cons {c : Nat} {l : List Nat} (h : okL (c :: l)) : (tx l).length < (tx (c :: l)).length := by
  have := runeB_pos (h c (by simp))
  rw [tx_cons, List.length_append]; omega
theorem tx_len_ge : ∀ {l : List Nat}, okL l → l.length ≤ (tx l).length
  | [], _ => Nat.zero_le _
  | c :: l, h => by
    have h1 := tx_len_cons h
    have h2 := tx_len_ge (okL_tail h)
    simp only [List.length_cons]; omega
theorem tx_len_zero {l : List Nat} (h : okL l) (h0 : (tx l).length = 0) : l = [] := by
  have := tx_len_ge h
  exact List.length_eq_zero_iff.1 (by omega)
theorem tx_snoc (p : List Nat) (c : Nat) : (tx (p ++ [c])).length = (tx p).length + (runeB c).length := by
  rw [tx_append, List.length_append]; simp [tx]
theorem tx_len_app (p t : List Nat) : (tx (p ++ t)).length = (tx p).length + (tx t).length := by rw [tx_append, List.length_append]
/-- What is decoded at a character's place. -/
theorem dec_T (p : List Nat) (c : Nat) (t : List Nat) (h : charR (c : Int) = true) : Utf8.decode (T (p ++ c :: t)) (tx p).length = (c, (runeB c).length) ∧ (tx p).length < (T (p ++ c :: t)).size := by
  have hd : (T (p ++ c :: t)).data.toList.drop (tx p).length = runeB c ++ tx t := by
    rw [T_data, tx_append, List.drop_left, tx_cons]
  refine ⟨?_, ?_⟩
  · rw [← Lib.decodeL_drop, hd]
    exact dec_rune c (charR_ok h) _
  · have := runeB_pos h
    rw [T_size, tx_len_app, tx_cons, List.length_append]; omega
theorem dec_at {l p t : List Nat} {c : Nat} (e : l = p ++ c :: t) (h : okL l) : Utf8.decode (T l) (tx p).length = (c, (runeB c).length) ∧ (tx p).length < (T l).size ∧ charR (c : Int) = true ∧ 1 ≤ (runeB c).length := by
  subst e
  have hc := h c (by simp)
  exact ⟨(dec_T p c t hc).1, (dec_T p c t hc).2, hc, runeB_pos hc⟩
theorem end_at {l p : List Nat} (e : l = p ++ []) : ¬ (tx p).length < (T l).size := by
  subst e; rw [T_size, List.append_nil]; omega
theorem T_pre (p t : List Nat) : (T (p ++ t)).extract 0 (tx p).length = T p := by
  unfold T
  apply ByteArray.ext
  rw [ByteArray.data_extract, tx_append]
  simp
theorem pre_at {l p t : List Nat} (e : l = p ++ t) : (T l).extract 0 (tx p).length = T p := by subst e; exact T_pre p t
theorem T_suf (p t : List Nat) : (T (p ++ t)).extract (tx p).length (T (p ++ t)).size = T t := by
  rw [T_size]
  unfold T
  apply ByteArray.ext
  rw [ByteArray.data_extract, tx_append]
  simp
theorem suf_at {l p t : List Nat} (e : l = p ++ t) : (T l).extract (tx p).length (T l).size = T t := by subst e; exact T_suf p t
theorem T_mid (p m t : List Nat) : (T (p ++ m ++ t)).extract (tx p).length ((tx p).length + (tx m).length) = T m := by
  unfold T
  apply ByteArray.ext
  rw [ByteArray.data_extract, tx_append, tx_append]
  simp
theorem T_app (a b : List Nat) : T a ++ T b = T (a ++ b) := by
  unfold T
  apply ByteArray.ext
  rw [ByteArray.data_append, tx_append]
  simp
theorem T_empty {l : List Nat} (h : okL l) : ((T l).toList = [] ↔ l = []) := by
  rw [T_toList]
  constructor
  · intro h0; exact tx_len_zero h (by rw [h0]; rfl)
  · rintro rfl; rfl
/-- A text that begins with signs below 128. -/
theorem pre_tx : ∀ (a l : List Nat), (∀ c ∈ a, c < 128) → okL l → Lib.hasPrefix (tx l) (a.map UInt8.ofNat) = a.isPrefixOf l
  | [], l, _, _ => by unfold Lib.hasPrefix; cases tx l <;> rfl
  | x :: a, [], _, _ => rfl
  | x :: a, c :: l, ha, hl => by
    have hx := ha x (by simp)
    have ih := pre_tx a l (fun c hc => ha c (by simp [hc])) (okL_tail hl)
    have hc := charR_ok (hl c (by simp))
    unfold Lib.hasPrefix at ih ⊢
    rw [tx_cons, List.map_cons]
    show _ = (x == c && a.isPrefixOf l)
    by_cases h1 : c < 128
    · rw [runeB_one h1, List.singleton_append]
      show (UInt8.ofNat x == UInt8.ofNat c && (a.map UInt8.ofNat).isPrefixOf (tx l)) = _
      rw [ih]
      congr 1
      rw [Bool.eq_iff_iff, beq_iff_eq, beq_iff_eq]
      constructor
      · intro e
        have := congrArg UInt8.toNat e
        rwa [u8_nat (by omega), u8_nat (by omega)] at this
      · rintro rfl; rfl
    · have hne : (x == c) = false := by simp; omega
      rw [hne, Bool.false_and]
      have key : ∀ (n : Nat) (r : List UInt8), 128 ≤ n → n < 256 → (UInt8.ofNat x :: a.map UInt8.ofNat).isPrefixOf (UInt8.ofNat n :: r) = false := by
        intro n r h2 h3
        show (UInt8.ofNat x == UInt8.ofNat n && _) = false
        have : (UInt8.ofNat x == UInt8.ofNat n) = false := by
          rw [beq_eq_false_iff_ne]
          intro e
          have := congrArg UInt8.toNat e
          rw [u8_nat (by omega), u8_nat h3] at this
          omega
        rw [this, Bool.false_and]
      unfold okR at hc
      by_cases h2 : c < 2048
      · rw [runeB_two (by omega) h2]; exact key _ _ (by omega) (by omega)
      · by_cases h3 : c < 65536
        · rw [runeB_three (by omega) h3 (by unfold okR; omega)]; exact key _ _ (by omega) (by omega)
        · rw [runeB_four (by omega) (by omega)]; exact key _ _ (by omega) (by omega)
theorem isPre_one (q : Nat) (l : List Nat) : [q].isPrefixOf l = heads q l := by
  cases l with
  | nil => rfl
  | cons c t =>
    show (q == c && [].isPrefixOf t) = _
    rw [show ([] : List Nat).isPrefixOf t = true by cases t <;> rfl, Bool.and_true]
    unfold heads
    simp only [List.head?_cons]
    rw [Bool.eq_iff_iff]; simp; exact eq_comm
theorem pre_one {q : Nat} {l : List Nat} (hq : q < 128) (hl : okL l) : Lib.hasPrefix (tx l) [UInt8.ofNat q] = heads q l := by
  have := pre_tx [q] l (fun c hc => by rw [List.mem_singleton.1 hc]; exact hq) hl
  rw [isPre_one] at this
  exact this
theorem cut_one {q : Nat} {l : List Nat} (hq : q < 128) (hl : okL l) : Lib.trimPrefix (tx l) [UInt8.ofNat q] = tx (if heads q l then l.tail else l) := by
  unfold Lib.trimPrefix
  rw [pre_one hq hl]
  by_cases h : heads q l = true
  · rw [if_pos h, if_pos h]
    cases l with
    | nil => cases h
    | cons c t =>
      have hc : c = q := by unfold heads at h; simpa using h
      subst hc
      rw [tx_cons, runeB_one hq]
      rfl
  · rw [if_neg h, if_neg h]
theorem digC_lt {c : Nat} (h : digC c = true) : 48 ≤ c ∧ c ≤ 57 := by simpa [digC] using h
theorem digC_ge {c : Nat} (h : digC c = false) : c < 48 ∨ 57 < c := by simp [digC] at h; omega
theorem begC_eq (c : Nat) (h : charR (c : Int) = true) : beginB (c : Int) = begC c := beginB_eq _ (by have := charR_ok h; unfold okR at this; omega)
theorem goC_eq (c : Nat) (h : charR (c : Int) = true) : goesB (c : Int) = goC c := goesB_eq _ (by have := charR_ok h; unfold okR at this; omega)
theorem blankC_eq (c : Nat) : blankB (c : Int) = blankC c := by
  unfold blankB blankC
  rw [Bool.eq_iff_iff]
  simp
  omega
/-- A text of characters that may be is one of a list of such. -/
theorem txt_T {s : ByteArray} (h : Txt s.data.toList) : ∃ l, okL l ∧ s = T l := by
  obtain ⟨rs, h1, h2⟩ := h
  refine ⟨rs, h1, ?_⟩
  unfold T tx
  rw [← h2]
theorem T_txt {l : List Nat} (h : okL l) : Txt (T l).data.toList := ⟨l, h, T_data l⟩
end Go.Proofs.YthkkfldmoflfaaaGreatDoor
/- The digits, the name that a text begins with: xplex's digitsAhead and nameAhead. -/
namespace Go.Proofs.YthkkfldmoflfaaaGreatDoor
open Go.RowKit
theorem digsA_stop (p t : List Nat) (c : Nat) (hp : ∀ x ∈ p, digC x = true) (hc : digC c = false) : digsA (p ++ c :: t) = p := digsA_run p (c :: t) hp (fun x hx => by cases hx; exact hc)
theorem digsA_whole (p : List Nat) (hp : ∀ x ∈ p, digC x = true) : digsA p = p := by
  have := digsA_run p [] hp (fun x hx => by cases hx)
  rwa [List.append_nil] at this
set_option maxHeartbeats 1000000 in
theorem digitsAhead_any (l : List Nat) (w : World) (hl : okL l) :
    Calls Tryz.prog 70 #[.string (T l)] w fun e w' => e = .returned (.string (T (digsA l))) ∧ Below w.heap.size w w' := by
  go_enter Tryz.func70, Tryz.ntmps70
  go_wp2_with fail
  go_loopw [] (fun w' => ∃ p t : List Nat, l = p ++ t ∧ (∀ x ∈ p, digC x = true) ∧ w' = w.iter (T l) (tx p).length) (fun w' => (T l).size - w'.iterPos w.heap.size)
  case atStart => exact ⟨[], l, rfl, (fun _ h => by cases h), rfl⟩
  case round =>
    obtain ⟨p, t, hpt, hp, rfl⟩ := hrel
    cases t with
    | nil =>
      have hnx : ∀ ty, (Instr.next (.pointer (some ⟨w.heap.size, 0, none⟩)) true ty).run Tryz.prog (w.iter (T l) (tx p).length) = _ := fun ty => run_next_end w (T l) (tx p).length ty (end_at hpt)
      have HPT := hide hpt
      clear hpt
      go_wp2
      go_ret
      refine ⟨ret_str ?_, (Below.refl _ _).alloc (Nat.le_refl _) _⟩
      rw [unhide HPT, List.append_nil, digsA_whole p hp]
    | cons c t =>
      obtain ⟨hd, hlt, hc, hpos⟩ := dec_at hpt hl
      have hnx : ∀ ty, (Instr.next (.pointer (some ⟨w.heap.size, 0, none⟩)) true ty).run Tryz.prog (w.iter (T l) (tx p).length) = _ := fun ty => run_next_any w (T l) (tx p).length ty hlt
      rw [hd] at hnx
      simp only at hnx
      have HS := hide (tx_snoc p c)
      have HP := hide (pre_at hpt)
      have HPT := hide hpt
      clear hd hpt
      cases hdc : digC c
      · rcases digC_ge hdc with hlo | hhi
        · go_wp2
          go_ret
          refine ⟨ret_str ?_, (Below.refl _ _).alloc (Nat.le_refl _) _⟩
          rw [unhide HP, unhide HPT, digsA_stop p t c hp hdc]
        · go_wp2
          go_ret
          refine ⟨ret_str ?_, (Below.refl _ _).alloc (Nat.le_refl _) _⟩
          rw [unhide HP, unhide HPT, digsA_stop p t c hp hdc]
      · obtain ⟨h1, h2⟩ := digC_lt hdc
        go_wp2
        refine ⟨⟨p ++ [c], t, by rw [unhide HPT]; simp, ?_, by rw [unhide HS]⟩, by simp; omega⟩
        intro x hx
        rcases List.mem_append.1 hx with hx | hx
        · exact hp x hx
        · rw [List.mem_singleton.1 hx]; exact hdc
theorem nameA_one {c : Nat} (h : begC c = true) : nameA [c] = [c] := by rw [nameA, if_pos h]; rfl
theorem nameA_snoc {p : List Nat} {c : Nat} (hp : nameA p = p) (h0 : p ≠ []) (hc : goC c = true) : nameA (p ++ [c]) = p ++ [c] := by
  cases p with
  | nil => exact absurd rfl h0
  | cons a t =>
    rw [nameA] at hp
    by_cases hb : begC a = true
    · rw [if_pos hb] at hp
      have ht : t.takeWhile goC = t := (List.cons.inj hp).2
      show nameA (a :: (t ++ [c])) = a :: (t ++ [c])
      rw [nameA, if_pos hb, List.takeWhile_append_of_pos (fun x hx => all_takeWhile goC t x (by rw [ht]; exact hx)), List.takeWhile_cons_of_pos hc]
      rfl
    · rw [if_neg hb] at hp; cases hp
set_option maxHeartbeats 1000000 in
theorem nameAhead_any (l : List Nat) (w : World) (hl : okL l) :
    Calls Tryz.prog 102 #[.string (T l)] w fun e w' => e = .returned (.string (T (nameA l))) ∧ Below w.heap.size w w' := by
  go_enter Tryz.func102, Tryz.ntmps102
  go_wp2_with fail
  go_loopw [] (fun wr => ∃ p t : List Nat, l = p ++ t ∧ nameA p = p ∧ wr.heap[w.heap.size]? = some (.stringIter (T l) (tx p).length) ∧ Below w.heap.size w wr) (fun wr => (T l).size - wr.iterPos w.heap.size)
  case atStart => exact ⟨[], l, rfl, rfl, World.iter_heap _ _ _, (Below.refl _ _).alloc (Nat.le_refl _) _⟩
  case round =>
    obtain ⟨p, t, hpt, hp, hk, hbr⟩ := hrel
    cases t with
    | nil =>
      have hnx := fun ty => Lib.run_next_end_at (P := Tryz.prog) wr w.heap.size (T l) (tx p).length ty hk (end_at hpt)
      have HPT := hide hpt
      have HP := hide hp
      clear hpt hp hk
      go_wp2
      go_ret
      refine ⟨ret_str ?_, hbr⟩
      rw [unhide HPT, List.append_nil, unhide HP]
    | cons c t =>
      obtain ⟨hd, hlt, hc, hpos⟩ := dec_at hpt hl
      have hnx := fun ty => Lib.run_next_any_at (P := Tryz.prog) wr w.heap.size (T l) (tx p).length ty hk hlt
      rw [hd] at hnx
      simp only at hnx
      have HS := hide (tx_snoc p c)
      have HX := hide (pre_at hpt)
      have HPT := hide hpt
      have HP := hide hp
      have HK := hide hk
      have hbc := begC_eq c hc
      have hgc := goC_eq c hc
      have HB := hide hbc
      have HG := hide hgc
      have H0 : Hid ((tx p).length = 0 ↔ p = []) := hide ⟨fun h => tx_len_zero (okL_left (hpt ▸ hl)) h, fun h => by rw [h]; rfl⟩
      clear hd hpt hp hk hbc hgc
      generalize (tx p).length = n at *
      by_cases hz : n = 0
      · subst hz
        have hp0 := (unhide H0).1 rfl
        cases hb : begC c
        · have HBF := hide hb
          clear hb
          go_wp2_with (go_at_call 104; refine (begins_any _ _).mono ?_; rintro e w1 ⟨rfl, hb1⟩; rw [unhide HB, unhide HBF])
          go_ret
          refine ⟨ret_str ?_, (iter_on (unhide HK) hbr hb1).2⟩
          rw [unhide HPT, hp0, List.nil_append, nameA_no (unhide HBF)]
          rfl
        · have HBT := hide hb
          have HGT := hide (goC_of_beg hb)
          clear hb
          go_wp2_with (first | (go_at_call 104; refine (begins_any _ _).mono ?_; rintro e w1 ⟨rfl, hb1⟩; rw [unhide HB, unhide HBT]) | (go_at_call 105; refine (goesOn_any _ _).mono ?_; rintro e w2 ⟨rfl, hb2⟩; rw [unhide HG, unhide HGT]))
          obtain ⟨q1, q2⟩ := iter_on (unhide HK) hbr (Below.then hb1 hb2)
          refine ⟨⟨p ++ [c], t, by rw [unhide HPT]; simp, by rw [hp0]; exact nameA_one (unhide HBT), by rw [unhide HS, Nat.zero_add]; exact q1, q2⟩, ?_⟩
          rw [iterPos_of q1, iterPos_of (unhide HK)]; omega
      · have hz' : ((n : Int) == 0) = false := by simpa using hz
        have hp0 : p ≠ [] := fun h => hz ((unhide H0).2 h)
        cases hg : goC c
        · have HGF := hide hg
          clear hg
          go_wp2_with (go_at_call 105; refine (goesOn_any _ _).mono ?_; rintro e w2 ⟨rfl, hb2⟩; rw [unhide HG, unhide HGF])
          go_ret
          refine ⟨ret_str ?_, (iter_on (unhide HK) hbr hb2).2⟩
          rw [unhide HX, unhide HPT, nameA_run p (c :: t) (fun x hx => by cases hx; exact unhide HGF) (unhide HP) hp0]
        · have HGT := hide hg
          clear hg
          go_wp2_with (go_at_call 105; refine (goesOn_any _ _).mono ?_; rintro e w2 ⟨rfl, hb2⟩; rw [unhide HG, unhide HGT])
          obtain ⟨q1, q2⟩ := iter_on (unhide HK) hbr hb2
          refine ⟨⟨p ++ [c], t, by rw [unhide HPT]; simp, nameA_snoc (unhide HP) hp0 (unhide HGT), by rw [unhide HS]; exact q1, q2⟩, ?_⟩
          rw [iterPos_of q1, iterPos_of (unhide HK)]; omega
end Go.Proofs.YthkkfldmoflfaaaGreatDoor
