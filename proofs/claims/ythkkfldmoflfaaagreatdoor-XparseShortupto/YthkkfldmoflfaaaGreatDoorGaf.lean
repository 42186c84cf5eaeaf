/- Several texts, laid as one. -/
import Derived.Test.YthkkfldmoflfaaaGreatDoorGae
import Derived.Lib.TrimUEq
import Derived.Test.YthkkfldmoflfaaaGreatDoorGac
import Derived.Lib.DecodeN
import Derived.Lib.RuneCountTail
/- What is encoded is decoded, and what is decoded is encoded: plain lemmas. -/
namespace Go.Proofs.YthkkfldmoflfaaaGreatDoor
open Go.RowKit
def okR (r : Nat) : Prop := r < 55296 ∨ (57344 ≤ r ∧ r ≤ 1114111)
theorem runeB_one {r : Nat} (h : r < 128) : runeB r = [UInt8.ofNat r] := by
  unfold runeB; rw [Lib.encodeRuneZ_one (by omega) (by omega)]; rfl
theorem runeB_two {r : Nat} (h : 128 ≤ r) (h' : r < 2048) : runeB r = [UInt8.ofNat (192 + r / 64), UInt8.ofNat (128 + r % 64)] := by
  unfold runeB; rw [Lib.encodeRuneZ_two (by omega) (by omega)]
  simp only [List.map_cons, List.map_nil]
  rw [show (192 + (r : Int) / 64).toNat = 192 + r / 64 by omega, show (128 + (r : Int) % 64).toNat = 128 + r % 64 by omega]
theorem runeB_three {r : Nat} (h : 2048 ≤ r) (h' : r < 65536) (ho : okR r) : runeB r = [UInt8.ofNat (224 + r / 4096), UInt8.ofNat (128 + r / 64 % 64), UInt8.ofNat (128 + r % 64)] := by
  unfold okR at ho
  unfold runeB; rw [Lib.encodeRuneZ_three (by omega)]
  simp only [List.map_cons, List.map_nil]
  rw [show (224 + (r : Int) / 4096).toNat = 224 + r / 4096 by omega, show (128 + (r : Int) / 64 % 64).toNat = 128 + r / 64 % 64 by omega, show (128 + (r : Int) % 64).toNat = 128 + r % 64 by omega]
theorem runeB_four {r : Nat} (h : 65536 ≤ r) (h' : r ≤ 1114111) : runeB r = [UInt8.ofNat (240 + r / 262144), UInt8.ofNat (128 + r / 4096 % 64), UInt8.ofNat (128 + r / 64 % 64), UInt8.ofNat (128 + r % 64)] := by
  unfold runeB; rw [Lib.encodeRuneZ_four (by omega) (by omega)]
  simp only [List.map_cons, List.map_nil]
  rw [show (240 + (r : Int) / 262144).toNat = 240 + r / 262144 by omega, show (128 + (r : Int) / 4096 % 64).toNat = 128 + r / 4096 % 64 by omega, show (128 + (r : Int) / 64 % 64).toNat = 128 + r / 64 % 64 by omega, show (128 + (r : Int) % 64).toNat = 128 + r % 64 by omega]
theorem u8_nat {n : Nat} (h : n < 256) : (UInt8.ofNat n).toNat = n := by rw [UInt8.toNat_ofNat']; omega
set_option maxHeartbeats 2000000 in
/-- What is encoded is decoded. -/
theorem dec_rune (r : Nat) (ho : okR r) (t : List UInt8) : Lib.decodeL (runeB r ++ t) = (r, (runeB r).length) := by
  rw [Lib.decodeL_N]
  have ho' := ho
  unfold okR at ho'
  by_cases h1 : r < 128
  · rw [runeB_one h1]
    simp only [List.cons_append, List.nil_append, List.getD_cons_zero, u8_nat (show r < 256 by omega), Lib.decodeN, if_pos h1, List.length_cons, List.length_nil]
  · by_cases h2 : r < 2048
    · rw [runeB_two (by omega) h2]
      simp only [List.cons_append, List.nil_append, List.getD_cons_zero, List.getD_cons_succ, List.length_cons, List.length_nil, u8_nat (show 192 + r / 64 < 256 by omega), u8_nat (show 128 + r % 64 < 256 by omega), Lib.decodeN]
      rw [if_neg (by omega), if_pos ⟨by omega, by omega, by omega⟩, if_pos (by omega)]
      apply Prod.ext <;> simp only <;> omega
    · by_cases h3 : r < 65536
      · rw [runeB_three (by omega) h3 ho]
        simp only [List.cons_append, List.nil_append, List.getD_cons_zero, List.getD_cons_succ, List.length_cons, List.length_nil, u8_nat (show 224 + r / 4096 < 256 by omega), u8_nat (show 128 + r / 64 % 64 < 256 by omega), u8_nat (show 128 + r % 64 < 256 by omega), Lib.decodeN]
        rw [if_neg (by omega), if_neg (by omega), if_pos ⟨by omega, ⟨by omega, by omega⟩, by omega, by omega⟩, if_pos (by omega)]
        apply Prod.ext <;> simp only <;> omega
      · rw [runeB_four (by omega) (by omega)]
        simp only [List.cons_append, List.nil_append, List.getD_cons_zero, List.getD_cons_succ, List.length_cons, List.length_nil, u8_nat (show 240 + r / 262144 < 256 by omega), u8_nat (show 128 + r / 4096 % 64 < 256 by omega), u8_nat (show 128 + r / 64 % 64 < 256 by omega), u8_nat (show 128 + r % 64 < 256 by omega), Lib.decodeN]
        rw [if_neg (by omega), if_neg (by omega), if_neg (by omega), if_pos ⟨by omega, ⟨by omega, by omega⟩, ⟨by omega, by omega⟩, by omega, by omega⟩, if_pos (by omega)]
        apply Prod.ext <;> simp only <;> omega
theorem u8_back {c : UInt8} {n : Nat} (h : c.toNat = n) : c = UInt8.ofNat n := by
  rw [← h]; simp
set_option maxHeartbeats 4000000 in
/-- What is decoded, and is no fault, is encoded as it was. -/
theorem rune_dec (l : List UInt8) (hl : l ≠ []) (hb : ¬ ((Lib.decodeL l).1 = 65533 ∧ (Lib.decodeL l).2 = 1)) : okR (Lib.decodeL l).1 ∧ l = runeB (Lib.decodeL l).1 ++ l.drop (Lib.decodeL l).2 := by
  rw [Lib.decodeL_N] at *
  match l, hl with
  | b0 :: t, _ =>
  have c0 := b0.toNat_lt
  simp only [List.getD_cons_zero] at *
  by_cases h0 : b0.toNat < 128
  · have e : Lib.decodeN (b0 :: t).length b0.toNat ((b0 :: t).getD 1 0).toNat ((b0 :: t).getD 2 0).toNat ((b0 :: t).getD 3 0).toNat = (b0.toNat, 1) := by rw [Lib.decodeN, if_pos h0]
    rw [e]
    refine ⟨.inl (by simp only; omega), ?_⟩
    simp only
    rw [runeB_one h0]
    simp
  · match t with
    | [] =>
      exfalso; apply hb
      simp only [List.length_cons, List.length_nil, Lib.decodeN]
      rw [if_neg h0, if_neg (by omega), if_neg (by omega), if_neg (by omega)]
      exact ⟨rfl, rfl⟩
    | b1 :: t =>
    have c1 := b1.toNat_lt
    simp only [List.getD_cons_zero, List.getD_cons_succ, List.length_cons] at *
    by_cases h1 : b0.toNat / 32 = 6 ∧ (1 < t.length + 1 + 1 ∧ b1.toNat / 64 = 2)
    · rw [Lib.decodeN, if_neg h0, if_pos h1] at *
      by_cases hv : b0.toNat % 32 * 64 + b1.toNat % 64 ≥ 128
      · rw [if_pos hv] at *
        refine ⟨.inl (by simp only; omega), ?_⟩
        simp only
        rw [runeB_two (by omega) (by omega), ← u8_back (show b0.toNat = _ by omega), ← u8_back (show b1.toNat = _ by omega)]
        rfl
      · rw [if_neg hv] at hb; exact absurd ⟨rfl, rfl⟩ hb
    · match t with
      | [] =>
        exfalso; apply hb
        simp only [List.length_nil, Lib.decodeN]
        rw [if_neg h0, if_neg (by simpa using h1), if_neg (by omega), if_neg (by omega)]
        exact ⟨rfl, rfl⟩
      | b2 :: t =>
      have c2 := b2.toNat_lt
      simp only [List.getD_cons_zero, List.getD_cons_succ, List.length_cons] at *
      by_cases h2 : b0.toNat / 16 = 14 ∧ (1 < t.length + 1 + 1 + 1 ∧ b1.toNat / 64 = 2) ∧ (2 < t.length + 1 + 1 + 1 ∧ b2.toNat / 64 = 2)
      · rw [Lib.decodeN, if_neg h0, if_neg h1, if_pos h2] at *
        split at hb
        · rename_i hv
          rw [if_pos hv]
          have ho : okR (b0.toNat % 16 * 4096 + b1.toNat % 64 * 64 + b2.toNat % 64) := by unfold okR; omega
          refine ⟨ho, ?_⟩
          simp only
          rw [runeB_three (by omega) (by omega) ho, ← u8_back (show b0.toNat = _ by omega), ← u8_back (show b1.toNat = _ by omega), ← u8_back (show b2.toNat = _ by omega)]
          rfl
        · exact absurd ⟨rfl, rfl⟩ hb
      · match t with
        | [] =>
          exfalso; apply hb
          simp only [List.length_nil, Lib.decodeN]
          rw [if_neg h0, if_neg (by simpa using h1), if_neg (by simpa using h2), if_neg (by omega)]
          exact ⟨rfl, rfl⟩
        | b3 :: t =>
        have c3 := b3.toNat_lt
        simp only [List.getD_cons_zero, List.length_cons] at *
        by_cases h3 : b0.toNat / 8 = 30 ∧ (1 < t.length + 1 + 1 + 1 + 1 ∧ b1.toNat / 64 = 2) ∧ (2 < t.length + 1 + 1 + 1 + 1 ∧ b2.toNat / 64 = 2) ∧ (3 < t.length + 1 + 1 + 1 + 1 ∧ b3.toNat / 64 = 2)
        · rw [Lib.decodeN, if_neg h0, if_neg h1, if_neg h2, if_pos h3] at *
          split at hb
          · rename_i hv
            rw [if_pos hv]
            have ho : okR (b0.toNat % 8 * 262144 + b1.toNat % 64 * 4096 + b2.toNat % 64 * 64 + b3.toNat % 64) := by unfold okR; omega
            refine ⟨ho, ?_⟩
            simp only
            rw [runeB_four (by omega) (by omega), ← u8_back (show b0.toNat = _ by omega), ← u8_back (show b1.toNat = _ by omega), ← u8_back (show b2.toNat = _ by omega), ← u8_back (show b3.toNat = _ by omega)]
            rfl
          · exact absurd ⟨rfl, rfl⟩ hb
        · exfalso; apply hb
          rw [Lib.decodeN, if_neg h0, if_neg h1, if_neg h2, if_neg h3]
          exact ⟨rfl, rfl⟩
theorem charR_ok {r : Nat} (h : charR (r : Int) = true) : okR r := by
  unfold charR at h
  unfold okR
  simp at h
  omega
theorem runeB_first {r : Nat} (ho : okR r) : ∃ c t, runeB r = c :: t ∧ c.toNat < 248 ∧ (c.toNat = 13 → r = 13) := by
  have ho' := ho
  unfold okR at ho'
  by_cases h1 : r < 128
  · exact ⟨_, _, runeB_one h1, by rw [u8_nat (by omega)]; omega, by rw [u8_nat (by omega)]; exact id⟩
  · by_cases h2 : r < 2048
    · exact ⟨_, _, runeB_two (by omega) h2, by rw [u8_nat (by omega)]; omega, by rw [u8_nat (by omega)]; omega⟩
    · by_cases h3 : r < 65536
      · exact ⟨_, _, runeB_three (by omega) h3 ho, by rw [u8_nat (by omega)]; omega, by rw [u8_nat (by omega)]; omega⟩
      · exact ⟨_, _, runeB_four (by omega) (by omega), by rw [u8_nat (by omega)]; omega, by rw [u8_nat (by omega)]; omega⟩
/-- A text: characters that may be, one behind the other. -/
def Txt (l : List UInt8) : Prop := ∃ rs : List Nat, (∀ r ∈ rs, charR (r : Int) = true) ∧ l = rs.flatMap runeB
end Go.Proofs.YthkkfldmoflfaaaGreatDoor
/- What is decoded of a text, byte by byte: plain lemmas. -/
namespace Go.Proofs.YthkkfldmoflfaaaGreatDoor
open Go.RowKit
theorem get_data (s : ByteArray) (i : Nat) (h : i < s.size) : s.get! i = s.data.toList[i]'h := by
  show s.data[i]! = _
  rw [getElem!_pos s.data i h]; rfl
/-- What is decoded at a place: a byte below 128 is itself, of width 1; bytes behind the first are 128 or above; none lies beyond the end. -/
theorem decode_bytes (s : ByteArray) (pos : Nat) (hp : pos < s.size) :
    ((s.get! pos).toNat < 128 → Utf8.decode s pos = ((s.get! pos).toNat, 1)) ∧ (∀ k, 1 ≤ k → k < (Utf8.decode s pos).2 → 128 ≤ (s.get! (pos + k)).toNat) ∧ pos + (Utf8.decode s pos).2 ≤ s.size := by
  rw [Lib.decode_at]
  generalize (s.get! pos).toNat = b0
  generalize h1 : (s.get! (pos + 1)).toNat = b1
  generalize h2 : (s.get! (pos + 2)).toNat = b2
  generalize h3 : (s.get! (pos + 3)).toNat = b3
  refine ⟨fun h => by unfold Lib.decodeN; rw [if_pos h], fun k hk hk' => ?_, ?_⟩
  · have key : (k = 1 ∧ 128 ≤ b1) ∨ (k = 2 ∧ 128 ≤ b2) ∨ (k = 3 ∧ 128 ≤ b3) := by
      revert hk'
      unfold Lib.decodeN
      repeat' split
      all_goals (intro hk'; simp only at hk'; omega)
    rcases key with ⟨rfl, h⟩ | ⟨rfl, h⟩ | ⟨rfl, h⟩
    · rw [h1]; exact h
    · rw [h2]; exact h
    · rw [h3]; exact h
  · unfold Lib.decodeN
    repeat' split
    all_goals (simp only; omega)
end Go.Proofs.YthkkfldmoflfaaaGreatDoor
/- Which characters may be: the reference's IsChar. -/
namespace Go.Proofs.YthkkfldmoflfaaaGreatDoor
open Go.RowKit
set_option maxHeartbeats 400000 in
theorem refIsChar_any (r : Int) (w : World) :
    Calls Tryz.prog 66 #[.int .i32 r] w fun e w' => e = .returned (.bool (charR r)) ∧ w' = w := by
  go_enter Tryz.func66, Tryz.ntmps66
  go_wp2
  all_goals
    go_ret
    refine ⟨ret_bool ?_, rfl⟩
    rw [Bool.eq_iff_iff]
    simp [charR]
    try omega
end Go.Proofs.YthkkfldmoflfaaaGreatDoor
/- The first byte that is no part of a character that may be: the reference's Bad and IsText. -/
namespace Go.Proofs.YthkkfldmoflfaaaGreatDoor
open Go.RowKit
/-- The first byte that is no part of a character that may be, from a place on; is it no part of a character at all? -/
def badFrom (s : ByteArray) : Nat → Nat → Int × Bool
  | 0, _ => (-1, false)
  | f + 1, pos => if pos < s.size then
      (if ((Utf8.decode s pos).1 : Int) == 65533 && ((Utf8.decode s pos).2 : Int) == 1 then ((pos : Int), true)
       else if charR (Utf8.decode s pos).1 then badFrom s f (pos + (Utf8.decode s pos).2) else ((pos : Int), false))
    else (-1, false)
theorem decodeRune_at (s : ByteArray) (pos : Nat) (w : World) (hp : pos < s.size) (hE : Env w) :
    Calls Tryz.prog 18 #[.string (s.extract pos s.size)] w fun e w' => e = .returned (.tuple #[.int .i32 (Utf8.decode s pos).1, .int .i64 (Utf8.decode s pos).2]) ∧ Below w.heap.size w w' := by
  have e : Lib.decodeGo (s.extract pos s.size) = Utf8.decode s pos := by
    unfold Lib.decodeGo
    rw [if_neg (by rw [ByteArray.size_extract]; omega), Lib.tail_decode, Nat.add_zero]
  have := Tryz.utf8_DecodeRuneInString (s.extract pos s.size) w hE.tabs
  rw [e] at this
  exact this
theorem badFrom_step (s : ByteArray) (f pos : Nat) (hp : pos < s.size) (hb : s.size < pos + f) : ∃ g, f = g + 1 ∧ badFrom s f pos =
    (if ((Utf8.decode s pos).1 : Int) == 65533 && ((Utf8.decode s pos).2 : Int) == 1 then ((pos : Int), true)
       else if charR (Utf8.decode s pos).1 then badFrom s g (pos + (Utf8.decode s pos).2) else ((pos : Int), false)) := by
  cases f with
  | zero => omega
  | succ g => exact ⟨g, rfl, by rw [badFrom, if_pos hp]⟩
theorem badFrom_end (s : ByteArray) (f pos : Nat) (hp : ¬ pos < s.size) : badFrom s f pos = (-1, false) := by
  cases f with
  | zero => rfl
  | succ g => rw [badFrom, if_neg hp]
theorem ret_bad {x : Int × Bool} {a : Int} {b : Bool} (h : x = (a, b)) : Ending.returned (.tuple #[.int .i64 a, .bool b]) = .returned (.tuple #[.int .i64 x.1, .bool x.2]) := by rw [h]
set_option maxHeartbeats 1000000 in
theorem refBad_any (s : ByteArray) (w : World) (hs : s.size ≤ 4294967280) (hE : Env w) :
    Calls Tryz.prog 34 #[.string s] w fun e w' => e = .returned (.tuple #[.int .i64 (badFrom s (s.size + 1) 0).1, .bool (badFrom s (s.size + 1) 0).2]) ∧ Below w.heap.size w w' := by
  have HE := hide hE
  clear hE
  go_enter Tryz.func34, Tryz.ntmps34
  go_wp2_with fail
  go_loopw [4] (fun i wr => ∃ (pos f : Nat), i = .int .i64 pos ∧ pos ≤ s.size ∧ Below w.heap.size w wr ∧ badFrom s (s.size + 1) 0 = badFrom s f pos ∧ s.size < pos + f) (fun i wr => s.size - (intOf i).toNat)
  case atStart => exact ⟨0, s.size + 1, rfl, Nat.zero_le _, Below.refl _ _, rfl, by omega⟩
  case round =>
    obtain ⟨pos, f, rfl, hps, hbr, hf, hfu⟩ := hrel
    by_cases hp : pos < s.size
    · have hwd := width_pos s pos hp
      obtain ⟨_, _, hwe⟩ := decode_bytes s pos hp
      obtain ⟨g, rfl, hg⟩ := badFrom_step s f pos hp hfu
      have HF := hide (hf.trans hg)
      clear hf hg
      go_wp2_with fail
      refine (decodeRune_at s pos _ hp ((unhide HE).below hbr)).mono ?_
      rintro e w1 ⟨rfl, hb1⟩
      generalize hd : Utf8.decode s pos = d at *
      clear hd
      go_wp2_with (go_at_call 66; refine (refIsChar_any _ _).mono ?_; rintro e w' ⟨rfl, rfl⟩)
      all_goals first
        | (go_ret2
           refine ⟨ret_bad ?_, Below.then hbr hb1⟩
           rw [unhide HF]
           simp_all)
        | (refine ⟨⟨pos + d.2, g, by go_num, hwe, Below.then hbr hb1, ?_, by omega⟩, by simp [intOf]; omega⟩
           rw [unhide HF]
           simp_all)
    · have HF := hide (hf.trans (badFrom_end s f pos hp))
      clear hf
      go_wp2
      go_ret2
      exact ⟨ret_bad (unhide HF), hbr⟩
def textR (s : ByteArray) : Bool := decide ((badFrom s (s.size + 1) 0).1 < 0)
set_option maxHeartbeats 1000000 in
theorem refIsText_any (s : ByteArray) (w : World) (hs : s.size ≤ 4294967280) (hE : Env w) :
    Calls Tryz.prog 17 #[.string s] w fun e w' => e = .returned (.bool (textR s)) ∧ Below w.heap.size w w' := by
  have HE := hide hE
  clear hE
  go_enter Tryz.func17, Tryz.ntmps17
  go_wp2_with fail
  refine (refBad_any s _ hs (unhide HE)).mono ?_
  rintro e w1 ⟨rfl, hb1⟩
  go_wp2
  all_goals
    go_ret
    exact ⟨ret_bool (by simp [textR, *]), hb1⟩
end Go.Proofs.YthkkfldmoflfaaaGreatDoor
/- What the program takes for a fault is what the reference takes for one: plain lemmas. -/
namespace Go.Proofs.YthkkfldmoflfaaaGreatDoor
open Go.RowKit
theorem mark_iff (s : ByteArray) (pos : Nat) : markAt s pos = true ↔ pos + 2 < s.size ∧ (s.get! pos).toNat = 239 ∧ (s.get! (pos + 1)).toNat = 191 ∧ (s.get! (pos + 2)).toNat = 189 := by
  have hl : s.data.toList.length = s.size := rfl
  unfold markAt Lib.hasPrefix
  rw [List.isPrefixOf_iff_prefix, List.prefix_iff_eq_take]
  constructor
  · intro h
    have h3 : pos + 2 < s.size := by
      have := congrArg List.length h
      simp only [List.length_take, List.length_drop, List.length_cons, List.length_nil, hl] at this
      omega
    have g : ∀ k (hk : k < 3), (s.data.toList[pos + k]'(by omega)) = [239, 191, 189][k]'hk := fun k hk => by
      have := congrArg (·[k]?) h
      simp only [List.getElem?_take, List.getElem?_drop, List.length_cons, List.length_nil, hk, if_true] at this
      rw [List.getElem?_eq_getElem (by simpa using hk), List.getElem?_eq_getElem (by omega)] at this
      exact (Option.some.inj this).symm
    refine ⟨h3, ?_, ?_, ?_⟩
    · rw [get_data s pos (by omega)]; have := g 0 (by decide); simp only [Nat.add_zero] at this; rw [this]; rfl
    · rw [get_data s (pos + 1) (by omega), g 1 (by decide)]; rfl
    · rw [get_data s (pos + 2) (by omega), g 2 (by decide)]; rfl
  · rintro ⟨h3, h0, h1, h2⟩
    rw [get_data s pos (by omega)] at h0
    rw [get_data s (pos + 1) (by omega)] at h1
    rw [get_data s (pos + 2) (by omega)] at h2
    rw [List.drop_eq_getElem_cons (by omega), List.drop_eq_getElem_cons (by omega), List.drop_eq_getElem_cons (by omega)]
    simp only [List.length_cons, List.length_nil, List.take_succ_cons, List.take_zero]
    rw [UInt8.toNat_inj.1 (show _ = (239 : UInt8).toNat from h0), UInt8.toNat_inj.1 (show _ = (191 : UInt8).toNat from h1), UInt8.toNat_inj.1 (show _ = (189 : UInt8).toNat from h2)]
/-- The replacement character is decoded of its own three bytes, or of one byte that is none. -/
theorem mark_width (s : ByteArray) (pos : Nat) (h : (Utf8.decode s pos).1 = 65533) : (!markAt s pos) = ((Utf8.decode s pos).2 == 1) := by
  have b0 := (s.get! pos).toNat_lt
  have b1 := (s.get! (pos + 1)).toNat_lt
  have b2 := (s.get! (pos + 2)).toNat_lt
  have hm := mark_iff s pos
  revert h
  rw [Lib.decode_at]
  intro h
  generalize (s.get! pos).toNat = x0 at *
  generalize (s.get! (pos + 1)).toNat = x1 at *
  generalize (s.get! (pos + 2)).toNat = x2 at *
  generalize (s.get! (pos + 3)).toNat = x3 at *
  have key : ((Lib.decodeN (s.size - pos) x0 x1 x2 x3).2 = 1 ∧ ¬ (pos + 2 < s.size ∧ x0 = 239 ∧ x1 = 191 ∧ x2 = 189)) ∨ ((Lib.decodeN (s.size - pos) x0 x1 x2 x3).2 ≠ 1 ∧ (pos + 2 < s.size ∧ x0 = 239 ∧ x1 = 191 ∧ x2 = 189)) := by
    revert h
    unfold Lib.decodeN
    repeat' split
    all_goals (intro h; first | (exfalso; simp only at h; omega) | (left; refine ⟨rfl, ?_⟩; omega) | (right; refine ⟨by simp only; omega, ?_⟩; simp only at h; omega))
  rcases key with ⟨k1, k2⟩ | ⟨k1, k2⟩
  · rw [k1]
    cases hc : markAt s pos
    · rfl
    · exact absurd (hm.1 hc) k2
  · rw [hm.2 k2]
    simp [k1]
theorem text_eq (s : ByteArray) : ∀ f pos, ((faultFrom s f pos).1 == 0) = decide ((badFrom s f pos).1 < 0)
  | 0, pos => rfl
  | f + 1, pos => by
    have hd := decode_le s pos
    unfold faultFrom badFrom
    by_cases hp : pos < s.size
    · rw [if_pos hp, if_pos hp]
      by_cases h : (Utf8.decode s pos).1 = 65533
      · rw [mark_width s pos h, h]
        by_cases hw : (Utf8.decode s pos).2 = 1
        · simp [hw]
        · have ih := text_eq s f (pos + (Utf8.decode s pos).2)
          have hc : charB ((65533 : Nat) : Int) = true := by decide +kernel
          have hc' : charR ((65533 : Nat) : Int) = true := by decide +kernel
          have hw' : (((Utf8.decode s pos).2 : Int) == 1) = false := by simp; omega
          have hw'' : ((Utf8.decode s pos).2 == 1) = false := by simpa using hw
          simp only [hc, hc', hw', hw'', Bool.and_false, if_true, Bool.false_eq_true, if_false]
          exact ih
      · have h' : (((Utf8.decode s pos).1 : Int) == 65533) = false := by simp; omega
        rw [charB_eq _ (by omega)]
        simp only [h', Bool.false_and, Bool.false_eq_true, if_false]
        cases hc : charR (Utf8.decode s pos).1
        · simp
        · simpa using text_eq s f (pos + (Utf8.decode s pos).2)
    · rw [if_neg hp, if_neg hp]; rfl
end Go.Proofs.YthkkfldmoflfaaaGreatDoor
/- Texts, as characters one behind the other, in UTF-8: plain lemmas. -/
namespace Go.Proofs.YthkkfldmoflfaaaGreatDoor
open Go.RowKit
theorem charB_dec (s : ByteArray) (pos : Nat) : charB ((Utf8.decode s pos).1 : Nat) = charR ((Utf8.decode s pos).1 : Nat) :=
  charB_eq _ (by have := rune_le s pos; omega)
theorem txt_nil : Txt [] := ⟨[], by simp, rfl⟩
theorem txt_cons {r : Nat} {t : List UInt8} (hr : charR (r : Int) = true) (h : Txt t) : Txt (runeB r ++ t) := by
  obtain ⟨rs, h1, rfl⟩ := h
  exact ⟨r :: rs, fun x hx => by rcases List.mem_cons.1 hx with rfl | hx; exact hr; exact h1 x hx, rfl⟩
theorem txt_head {l : List UInt8} (h : Txt l) (hl : l ≠ []) : charR ((Lib.decodeL l).1 : Nat) = true ∧ l = runeB (Lib.decodeL l).1 ++ l.drop (Lib.decodeL l).2 ∧ Txt (l.drop (Lib.decodeL l).2) ∧ ¬ ((Lib.decodeL l).1 = 65533 ∧ (Lib.decodeL l).2 = 1) := by
  obtain ⟨rs, h1, rfl⟩ := h
  cases rs with
  | nil => exact absurd rfl hl
  | cons r rs =>
    have hr := h1 r (by simp)
    have e : (r :: rs).flatMap runeB = runeB r ++ rs.flatMap runeB := rfl
    rw [e, dec_rune r (charR_ok hr)]
    simp only [List.drop_left]
    refine ⟨hr, trivial, ⟨rs, fun x hx => h1 x (by simp [hx]), rfl⟩, ?_⟩
    rintro ⟨rfl, hh⟩
    exact absurd hh (by decide +kernel)
theorem drop_nil (s : ByteArray) (pos : Nat) (h : ¬ pos < s.size) : s.data.toList.drop pos = [] := List.drop_eq_nil_of_le (by show s.size ≤ pos; omega)
theorem drop_ne (s : ByteArray) (pos : Nat) (h : pos < s.size) : s.data.toList.drop pos ≠ [] := by
  intro e
  have := congrArg List.length e
  rw [List.length_drop] at this
  have h' : s.data.toList.length = s.size := rfl
  simp at this
  omega
theorem fault_txt (s : ByteArray) : ∀ f pos, s.size < pos + f → ((faultFrom s f pos).1 = 0 ↔ Txt (s.data.toList.drop pos))
  | 0, pos, h => by
    rw [drop_nil s pos (by omega)]
    exact ⟨fun _ => txt_nil, fun _ => rfl⟩
  | f + 1, pos, h => by
    by_cases hp : pos < s.size
    · rw [faultFrom, if_pos hp, charB_dec]
      have hne := drop_ne s pos hp
      have hw := width_pos s pos hp
      have hmw := mark_width s pos
      have hrd := rune_dec _ hne
      have hth := fun hx => txt_head (l := s.data.toList.drop pos) hx hne
      rw [Lib.decodeL_drop] at hrd hth
      rw [List.drop_drop] at hrd hth
      have ih := fault_txt s f (pos + (Utf8.decode s pos).2) (by omega)
      generalize Utf8.decode s pos = d at *
      by_cases hb : d.1 = 65533 ∧ d.2 = 1
      · have e : (((d.1 : Nat) : Int) == 65533 && !markAt s pos) = true := by rw [hmw hb.1, hb.1, hb.2]; rfl
        rw [if_pos e]
        exact ⟨fun h => absurd h (by simp), fun h => absurd hb (hth h).2.2.2⟩
      · have e : ¬ (((d.1 : Nat) : Int) == 65533 && !markAt s pos) = true := by
          intro h
          rw [Bool.and_eq_true] at h
          have h1 : d.1 = 65533 := by have := beq_iff_eq.1 h.1; omega
          rw [hmw h1] at h
          exact hb ⟨h1, beq_iff_eq.1 h.2⟩
        rw [if_neg e]
        obtain ⟨ho, heq⟩ := hrd hb
        by_cases hc : charR ((d.1 : Nat) : Int) = true
        · rw [if_pos hc, ih]
          exact ⟨fun h => by rw [heq]; exact txt_cons hc h, fun h => (hth h).2.2.1⟩
        · rw [if_neg hc]
          exact ⟨fun h => absurd h (by simp), fun h => absurd (hth h).1 hc⟩
    · rw [faultFrom, if_neg hp, drop_nil s pos hp]
      exact ⟨fun _ => txt_nil, fun _ => rfl⟩
end Go.Proofs.YthkkfldmoflfaaaGreatDoor
/- Tokens of expressions, over lists of characters: what xplex's functions tell, in plain terms. -/
namespace Go.Proofs.YthkkfldmoflfaaaGreatDoor
def begC (c : Nat) : Bool := inL (c : Int) beginL
def goC (c : Nat) : Bool := inL (c : Int) beginL || inL (c : Int) onL
def blankC (c : Nat) : Bool := c == 9 || c == 10 || c == 13 || c == 32
def digC (c : Nat) : Bool := decide (48 ≤ c) && decide (c ≤ 57)
/-- The name that characters begin with. -/
def nameA : List Nat → List Nat
  | [] => []
  | c :: t => if begC c then c :: t.takeWhile goC else []
def isNm (l : List Nat) : Bool := !l.isEmpty && nameA l == l
/-- Does a list begin with a character, and what stands behind it? -/
def heads (c : Nat) (l : List Nat) : Bool := l.head? == some c
def qnameA (l : List Nat) : List Nat :=
  if !(nameA l).isEmpty && (heads 58 (l.drop (nameA l).length) && !(nameA (l.drop (nameA l).length).tail).isEmpty) then nameA l ++ 58 :: nameA (l.drop (nameA l).length).tail else nameA l
def wordA (l : List Nat) : List Nat :=
  if heads 42 l then [42] else
  if isNm (qnameA l) && [58, 42].isPrefixOf (l.drop (qnameA l).length) then qnameA l ++ [58, 42] else qnameA l
def digsA (l : List Nat) : List Nat := l.takeWhile digC
def numA (l : List Nat) : List Nat :=
  if heads 46 (l.drop (digsA l).length) && !(digsA (l.drop (digsA l).length).tail).isEmpty then digsA l ++ 46 :: digsA (l.drop (digsA l).length).tail else digsA l
/-- What stands within the string that characters begin with, and its sign. -/
def strAt (q : Nat) (l : List Nat) : Option (List Nat) :=
  if heads q l && l.tail.contains q then some (l.tail.takeWhile (· != q)) else none
def varA (l : List Nat) : Option (List Nat) :=
  if heads 36 l && !(qnameA l.tail).isEmpty then some (qnameA l.tail) else none
/-- Is it a QName? -/
def isQ (w : List Nat) : Bool :=
  if w.contains 58 then isNm (w.takeWhile (· != 58)) && isNm (w.dropWhile (· != 58)).tail else isNm w
def opWord (w : List Nat) : Bool := w == [97, 110, 100] || w == [111, 114] || w == [109, 111, 100] || w == [100, 105, 118] || w == [42]
def typeWord (w : List Nat) : Bool := w == [99, 111, 109, 109, 101, 110, 116] || w == [116, 101, 120, 116] ||
  w == [112, 114, 111, 99, 101, 115, 115, 105, 110, 103, 45, 105, 110, 115, 116, 114, 117, 99, 116, 105, 111, 110] || w == [110, 111, 100, 101]
/-- What a word is: its kind; none: it can't stand there. pl: an operator is asked for there. -/
def wordK (w b : List Nat) (pl : Bool) : Option Nat :=
  if pl then (if opWord w then some 8 else none) else
  if heads 40 (b.dropWhile blankC) && typeWord w then some 5 else
  if heads 40 (b.dropWhile blankC) && isQ w then some 4 else
  if [58, 58].isPrefixOf (b.dropWhile blankC) && isNm w then some 6 else some 3
def signL : List (Nat × List Nat) := [(8, [47, 47]), (8, [33, 61]), (8, [60, 61]), (8, [62, 61]), (9, [58, 58]), (9, [46, 46]), (8, [47]), (8, [124]), (8, [43]), (8, [45]), (8, [61]), (8, [60]), (8, [62]),
  (9, [40]), (9, [41]), (9, [91]), (9, [93]), (9, [46]), (9, [64]), (9, [44])]
def signA (l : List Nat) : Option (Nat × List Nat) := signL.find? (fun x => x.2.isPrefixOf l)
/-- A token: its kind, its text, and the characters that it takes. -/
structure Tok where
  kind : Nat
  text : List Nat
  raw : List Nat
  deriving DecidableEq
def tokA (l : List Nat) (pl : Bool) : Option Tok :=
  if !(numA l).isEmpty then some ⟨1, numA l, numA l⟩ else
  match strAt 34 l with
  | some t => some ⟨2, t, 34 :: t ++ [34]⟩
  | none => match strAt 39 l with
    | some t => some ⟨2, t, 39 :: t ++ [39]⟩
    | none => match varA l with
      | some t => some ⟨7, t, 36 :: t⟩
      | none => if !(wordA l).isEmpty then (wordK (wordA l) (l.drop (wordA l).length) pl).map (fun k => ⟨k, wordA l, wordA l⟩)
        else (signA l).map (fun x => ⟨x.1, x.2, x.2⟩)
/-- Is an operator asked for behind a token? -/
def behindOp (t : Tok) : Bool := !(t.kind == 8 || (t.kind == 9 && (t.text == [64] || t.text == [58, 58] || t.text == [40] || t.text == [91] || t.text == [44])))
def plOf (acc : List (Tok × Nat)) : Bool := match acc.getLast? with | none => false | some t => behindOp t.1
/-- The tokens from a place on, behind blanks: all of them, or the place of what is none. n: how many bytes a list of characters has. -/
def scanA (n : List Nat → Nat) : Nat → List (Tok × Nat) → List Nat → List Nat → Except Nat (List (Tok × Nat))
  | 0, acc, _, _ => .ok acc
  | f + 1, acc, pre, l =>
    if (l.dropWhile blankC).isEmpty then .ok acc else
    match tokA (l.dropWhile blankC) (plOf acc) with
    | none => .error (n (pre ++ l.takeWhile blankC))
    | some t => scanA n f (acc ++ [(t, n (pre ++ l.takeWhile blankC))]) (pre ++ l.takeWhile blankC ++ t.raw) ((l.dropWhile blankC).drop t.raw.length)
end Go.Proofs.YthkkfldmoflfaaaGreatDoor
