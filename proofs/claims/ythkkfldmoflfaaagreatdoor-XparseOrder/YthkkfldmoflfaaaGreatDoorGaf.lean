/- Several texts, laid as one. -/
import Derived.Test.YthkkfldmoflfaaaGreatDoorGae
import Derived.Lib.TrimUEq
import Derived.Test.YthkkfldmoflfaaaGreatDoorGac
import Derived.Lib.DecodeN
import Derived.Lib.RuneCountTail
/- What is encoded is decoded, and what is decoded is encoded: plain lemmas. -/
namespace Go.Proofs.YthkkfldmoflfaaaGreatDoor
open Go.RowKit
def okR (r : Nat) : Prop := r < 55296 ∨ (57344 ≤ r ∧ r ≤ 1114111)
theorem runeB_one {r : Nat} (h : r < 128) : runeB r = [UInt8.ofNat r] := by
  unfold runeB; rw [Lib.encodeRuneZ_one (by omega) (by omega)]; rfl
theorem runeB_two {r : Nat} (h : 128 ≤ r) (h' : r < 2048) : runeB r = [UInt8.ofNat (192 + r / 64), UInt8.ofNat (128 + r % 64)] := by
  unfold runeB; rw [Lib.encodeRuneZ_two (by omega) (by omega)]
  simp only [List.map_cons, List.map_nil]
  rw [show (192 + (r : Int) / 64).toNat = 192 + r / 64 by omega, show (128 + (r : Int) % 64).toNat = 128 + r % 64 by omega]
theorem runeB_three {r : Nat} (h : 2048 ≤ r) (h' : r < 65536) (ho : okR r) : runeB r = [UInt8.ofNat (224 + r / 4096), UInt8.ofNat (128 + r / 64 % 64), UInt8.ofNat (128 + r % 64)] := by
  unfold okR at ho
  unfold runeB; rw [Lib.encodeRuneZ_three (by omega)]
  simp only [List.map_cons, List.map_nil]
  rw [show (224 + (r : Int) / 4096).toNat = 224 + r / 4096 by omega, show (128 + (r : Int) / 64 % 64).toNat = 128 + r / 64 % 64 by omega, show (128 + (r : Int) % 64).toNat = 128 + r % 64 by omega]
theorem runeB_four {r : Nat} (h : 65536 ≤ r) (h' : r ≤ 1114111) : runeB r = [UInt8.ofNat (240 + r / 262144), UInt8.ofNat (128 + r / 4096 % 64), UInt8.ofNat (128 + r / 64 % 64), UInt8.ofNat (128 + r % 64)] := by
  unfold runeB; rw [Lib.encodeRuneZ_four (by omega) (by omega)]
  simp only [List.map_cons, List.map_nil]
  rw [show (240 + (r : Int) / 262144).toNat = 240 + r / 262144 by omega, show (128 + (r : Int) / 4096 % 64).toNat = 128 + r / 4096 % 64 by omega, show (128 + (r : Int) / 64 % 64).toNat = 128 + r / 64 % 64 by omega, show (128 + (r : Int) % 64).toNat = 128 + r % 64 by omega]
theorem u8_nat {n : Nat} (h : n < 256) : (UInt8.ofNat n).toNat = n := by rw [UInt8.toNat_ofNat']; omega
set_option maxHeartbeats 2000000 in
/-- What is encoded is decoded. -/
theorem dec_rune (r : Nat) (ho : okR r) (t : List UInt8) : Lib.decodeL (runeB r ++ t) = (r, (runeB r).length) := by
  rw [Lib.decodeL_N]
  have ho' := ho
  unfold okR at ho'
  by_cases h1 : r < 128
  · rw [runeB_one h1]
    simp only [List.cons_append, List.nil_append, List.getD_cons_zero, u8_nat (show r < 256 by omega), Lib.decodeN, if_pos h1, List.length_cons, List.length_nil]
  · by_cases h2 : r < 2048
    · rw [runeB_two (by omega) h2]
      simp only [List.cons_append, List.nil_append, List.getD_cons_zero, List.getD_cons_succ, List.length_cons, List.length_nil, u8_nat (show 192 + r / 64 < 256 by omega), u8_nat (show 128 + r % 64 < 256 by omega), Lib.decodeN]
      rw [if_neg (by omega), if_pos ⟨by omega, by omega, by omega⟩, if_pos (by omega)]
      apply Prod.ext <;> simp only <;> omega
    · by_cases h3 : r < 65536
      · rw [runeB_three (by omega) h3 ho]
        simp only [List.cons_append, List.nil_append, List.getD_cons_zero, List.getD_cons_succ, List.length_cons, List.length_nil, u8_nat (show 224 + r / 4096 < 256 by omega), u8_nat (show 128 + r / 64 % 64 < 256 by omega), u8_nat (show 128 + r % 64 < 256 by omega), Lib.decodeN]
        rw [if_neg (by omega), if_neg (by omega), if_pos ⟨by omega, ⟨by omega, by omega⟩, by omega, by omega⟩, if_pos (by omega)]
        apply Prod.ext <;> simp only <;> omega
      · rw [runeB_four (by omega) (by omega)]
        simp only [List.cons_append, List.nil_append, List.getD_cons_zero, List.getD_cons_succ, List.length_cons, List.length_nil, u8_nat (show 240 + r / 262144 < 256 by omega), u8_nat (show 128 + r / 4096 % 64 < 256 by omega), u8_nat (show 128 + r / 64 % 64 < 256 by omega), u8_nat (show 128 + r % 64 < 256 by omega), Lib.decodeN]
        rw [if_neg (by omega), if_neg (by omega), if_neg (by omega), if_pos ⟨by omega, ⟨by omega, by omega⟩, ⟨by omega, by omega⟩, by omega, by omega⟩, if_pos (by omega)]
        apply Prod.ext <;> simp only <;> omega
theorem u8_back {c : UInt8} {n : Nat} (h : c.toNat = n) : c = UInt8.ofNat n := by
  rw [← h]; simp
set_option maxHeartbeats 4000000 in
/-- What is decoded, and is no fault, is encoded as it was. -/
theorem rune_dec (l : List UInt8) (hl : l ≠ []) (hb : ¬ ((Lib.decodeL l).1 = 65533 ∧ (Lib.decodeL l).2 = 1)) : okR (Lib.decodeL l).1 ∧ l = runeB (Lib.decodeL l).1 ++ l.drop (Lib.decodeL l).2 := by
  rw [Lib.decodeL_N] at *
  match l, hl with
  | b0 :: t, _ =>
  have c0 := b0.toNat_lt
  simp only [List.getD_cons_zero] at *
  by_cases h0 : b0.toNat < 128
  · have e : Lib.decodeN (b0 :: t).length b0.toNat ((b0 :: t).getD 1 0).toNat ((b0 :: t).getD 2 0).toNat ((b0 :: t).getD 3 0).toNat = (b0.toNat, 1) := by rw [Lib.decodeN, if_pos h0]
    rw [e]
    refine ⟨.inl (by simp only; omega), ?_⟩
    simp only
    rw [runeB_one h0]
    simp
  · match t with
    | [] =>
      exfalso; apply hb
      simp only [List.length_cons, List.length_nil, Lib.decodeN]
      rw [if_neg h0, if_neg (by omega), if_neg (by omega), if_neg (by omega)]
      exact ⟨rfl, rfl⟩
    | b1 :: t =>
    have c1 := b1.toNat_lt
    simp only [List.getD_cons_zero, List.getD_cons_succ, List.length_cons] at *
    by_cases h1 : b0.toNat / 32 = 6 ∧ (1 < t.length + 1 + 1 ∧ b1.toNat / 64 = 2)
    · rw [Lib.decodeN, if_neg h0, if_pos h1] at *
      by_cases hv : b0.toNat % 32 * 64 + b1.toNat % 64 ≥ 128
      · rw [if_pos hv] at *
        refine ⟨.inl (by simp only; omega), ?_⟩
        simp only
        rw [runeB_two (by omega) (by omega), ← u8_back (show b0.toNat = _ by omega), ← u8_back (show b1.toNat = _ by omega)]
        rfl
      · rw [if_neg hv] at hb; exact absurd ⟨rfl, rfl⟩ hb
    · match t with
      | [] =>
        exfalso; apply hb
        simp only [List.length_nil, Lib.decodeN]
        rw [if_neg h0, if_neg (by simpa using h1), if_neg (by omega), if_neg (by omega)]
        exact ⟨rfl, rfl⟩
      | b2 :: t =>
      have c2 := b2.toNat_lt
      simp only [List.getD_cons_zero, List.getD_cons_succ, List.length_cons] at *
      by_cases h2 : b0.toNat / 16 = 14 ∧ (1 < t.length + 1 + 1 + 1 ∧ b1.toNat / 64 = 2) ∧ (2 < t.length + 1 + 1 + 1 ∧ b2.toNat / 64 = 2)
      · rw [Lib.decodeN, if_neg h0, if_neg h1, if_pos h2] at *
        split at hb
        · rename_i hv
          rw [if_pos hv]
          have ho : okR (b0.toNat % 16 * 4096 + b1.toNat % 64 * 64 + b2.toNat % 64) := by unfold okR; omega
          refine ⟨ho, ?_⟩
          simp only
          rw [runeB_three (by omega) (by omega) ho, ← u8_back (show b0.toNat = _ by omega), ← u8_back (show b1.toNat = _ by omega), ← u8_back (show b2.toNat = _ by omega)]
          rfl
        · exact absurd ⟨rfl, rfl⟩ hb
      · match t with
        | [] =>
          exfalso; apply hb
          simp only [List.length_nil, Lib.decodeN]
          rw [if_neg h0, if_neg (by simpa using h1), if_neg (by simpa using h2), if_neg (by omega)]
          exact ⟨rfl, rfl⟩
        | b3 :: t =>
        have c3 := b3.toNat_lt
        simp only [List.getD_cons_zero, List.length_cons] at *
        by_cases h3 : b0.toNat / 8 = 30 ∧ (1 < t.length + 1 + 1 + 1 + 1 ∧ b1.toNat / 64 = 2) ∧ (2 < t.length + 1 + 1 + 1 + 1 ∧ b2.toNat / 64 = 2) ∧ (3 < t.length + 1 + 1 + 1 + 1 ∧ b3.toNat / 64 = 2)
        · rw [Lib.decodeN, if_neg h0, if_neg h1, if_neg h2, if_pos h3] at *
          split at hb
          · rename_i hv
            rw [if_pos hv]
            have ho : okR (b0.toNat % 8 * 262144 + b1.toNat % 64 * 4096 + b2.toNat % 64 * 64 + b3.toNat % 64) := by unfold okR; omega
            refine ⟨ho, ?_⟩
            simp only
            rw [runeB_four (by omega) (by omega), ← u8_back (show b0.toNat = _ by omega), ← u8_back (show b1.toNat = _ by omega), ← u8_back (show b2.toNat = _ by omega), ← u8_back (show b3.toNat = _ by omega)]
            rfl
          · exact absurd ⟨rfl, rfl⟩ hb
        · exfalso; apply hb
          rw [Lib.decodeN, if_neg h0, if_neg h1, if_neg h2, if_neg h3]
          exact ⟨rfl, rfl⟩
theorem charR_ok {r : Nat} (h : charR (r : Int) = true) : okR r := by
  unfold charR at h
  unfold okR
  simp at h
  omega
theorem runeB_first {r : Nat} (ho : okR r) : ∃ c t, runeB r = c :: t ∧ c.toNat < 248 ∧ (c.toNat = 13 → r = 13) := by
  have ho' := ho
  unfold okR at ho'
  by_cases h1 : r < 128
  · exact ⟨_, _, runeB_one h1, by rw [u8_nat (by omega)]; omega, by rw [u8_nat (by omega)]; exact id⟩
  · by_cases h2 : r < 2048
    · exact ⟨_, _, runeB_two (by omega) h2, by rw [u8_nat (by omega)]; omega, by rw [u8_nat (by omega)]; omega⟩
    · by_cases h3 : r < 65536
      · exact ⟨_, _, runeB_three (by omega) h3 ho, by rw [u8_nat (by omega)]; omega, by rw [u8_nat (by omega)]; omega⟩
      · exact ⟨_, _, runeB_four (by omega) (by omega), by rw [u8_nat (by omega)]; omega, by rw [u8_nat (by omega)]; omega⟩
/-- A text: characters that may be, one behind the other. -/
def Txt (l : List UInt8) : Prop := ∃ rs : List Nat, (∀ r ∈ rs, charR (r : Int) = true) ∧ l = rs.flatMap runeB
end Go.Proofs.YthkkfldmoflfaaaGreatDoor
/- What is decoded of a text, byte by byte: plain lemmas. -/
namespace Go.Proofs.YthkkfldmoflfaaaGreatDoor
open Go.RowKit
theorem get_data (s : ByteArray) (i : Nat) (h : i < s.size) : s.get! i = s.data.toList[i]'h := by
  show s.data[i]! = _
  rw [getElem!_pos s.data i h]; rfl
/-- What is decoded at a place: a byte below 128 is itself, of width 1; bytes behind the first are 128 or above; none lies beyond the end. -/
theorem decode_bytes (s : ByteArray) (pos : Nat) (hp : pos < s.size) :
    ((s.get! pos).toNat < 128 → Utf8.decode s pos = ((s.get! pos).toNat, 1)) ∧ (∀ k, 1 ≤ k → k < (Utf8.decode s pos).2 → 128 ≤ (s.get! (pos + k)).toNat) ∧ pos + (Utf8.decode s pos).2 ≤ s.size := by
  rw [Lib.decode_at]
  generalize (s.get! pos).toNat = b0
  generalize h1 : (s.get! (pos + 1)).toNat = b1
  generalize h2 : (s.get! (pos + 2)).toNat = b2
  generalize h3 : (s.get! (pos + 3)).toNat = b3
  refine ⟨fun h => by unfold Lib.decodeN; rw [if_pos h], fun k hk hk' => ?_, ?_⟩
  · have key : (k = 1 ∧ 128 ≤ b1) ∨ (k = 2 ∧ 128 ≤ b2) ∨ (k = 3 ∧ 128 ≤ b3) := by
      revert hk'
      unfold Lib.decodeN
      repeat' split
      all_goals (intro hk'; simp only at hk'; omega)
    rcases key with ⟨rfl, h⟩ | ⟨rfl, h⟩ | ⟨rfl, h⟩
    · rw [h1]; exact h
    · rw [h2]; exact h
    · rw [h3]; exact h
  · unfold Lib.decodeN
    repeat' split
    all_goals (simp only; omega)
end Go.Proofs.YthkkfldmoflfaaaGreatDoor
/- Which characters may be: the reference's IsChar. -/
namespace Go.Proofs.YthkkfldmoflfaaaGreatDoor
open Go.RowKit
set_option maxHeartbeats 400000 in
theorem refIsChar_any (r : Int) (w : World) :
    Calls Tryz.prog 66 #[.int .i32 r] w fun e w' => e = .returned (.bool (charR r)) ∧ w' = w := by
  go_enter Tryz.func66, Tryz.ntmps66
  go_wp2
  all_goals
    go_ret
    refine ⟨ret_bool ?_, rfl⟩
    rw [Bool.eq_iff_iff]
    simp [charR]
    try omega
end Go.Proofs.YthkkfldmoflfaaaGreatDoor
/- The first byte that is no part of a character that may be: the reference's Bad and IsText. -/
namespace Go.Proofs.YthkkfldmoflfaaaGreatDoor
open Go.RowKit
/-- The first byte that is no part of a character that may be, from a place on; is it no part of a character at all? -/
def badFrom (s : ByteArray) : Nat → Nat → Int × Bool
  | 0, _ => (-1, false)
  | f + 1, pos => if pos < s.size then
      (if ((Utf8.decode s pos).1 : Int) == 65533 && ((Utf8.decode s pos).2 : Int) == 1 then ((pos : Int), true)
       else if charR (Utf8.decode s pos).1 then badFrom s f (pos + (Utf8.decode s pos).2) else ((pos : Int), false))
    else (-1, false)
theorem decodeRune_at (s : ByteArray) (pos : Nat) (w : World) (hp : pos < s.size) (hE : Env w) :
    Calls Tryz.prog 18 #[.string (s.extract pos s.size)] w fun e w' => e = .returned (.tuple #[.int .i32 (Utf8.decode s pos).1, .int .i64 (Utf8.decode s pos).2]) ∧ Below w.heap.size w w' := by
  have e : Lib.decodeGo (s.extract pos s.size) = Utf8.decode s pos := by
    unfold Lib.decodeGo
    rw [if_neg (by rw [ByteArray.size_extract]; omega), Lib.tail_decode, Nat.add_zero]
  have := Tryz.utf8_DecodeRuneInString (s.extract pos s.size) w hE.tabs
  rw [e] at this
  exact this
theorem badFrom_step (s : ByteArray) (f pos : Nat) (hp : pos < s.size) (hb : s.size < pos + f) : ∃ g, f = g + 1 ∧ badFrom s f pos =
    (if ((Utf8.decode s pos).1 : Int) == 65533 && ((Utf8.decode s pos).2 : Int) == 1 then ((pos : Int), true)
       else if charR (Utf8.decode s pos).1 then badFrom s g (pos + (Utf8.decode s pos).2) else ((pos : Int), false)) := by
  cases f with
  | zero => omega
  | succ g => exact ⟨g, rfl, by rw [badFrom, if_pos hp]⟩
theorem badFrom_end (s : ByteArray) (f pos : Nat) (hp : ¬ pos < s.size) : badFrom s f pos = (-1, false) := by
  cases f with
  | zero => rfl
  | succ g => rw [badFrom, if_neg hp]
theorem ret_bad {x : Int × Bool} {a : Int} {b : Bool} (h : x = (a, b)) : Ending.returned (.tuple #[.int .i64 a, .bool b]) = .returned (.tuple #[.int .i64 x.1, .bool x.2]) := by rw [h]
set_option maxHeartbeats 1000000 in
theorem refBad_any (s : ByteArray) (w : World) (hs : s.size ≤ 4294967280) (hE : Env w) :
    Calls Tryz.prog 34 #[.string s] w fun e w' => e = .returned (.tuple #[.int .i64 (badFrom s (s.size + 1) 0).1, .bool (badFrom s (s.size + 1) 0).2]) ∧ Below w.heap.size w w' := by
  have HE := hide hE
  clear hE
  go_enter Tryz.func34, Tryz.ntmps34
  go_wp2_with fail
  go_loopw [4] (fun i wr => ∃ (pos f : Nat), i = .int .i64 pos ∧ pos ≤ s.size ∧ Below w.heap.size w wr ∧ badFrom s (s.size + 1) 0 = badFrom s f pos ∧ s.size < pos + f) (fun i wr => s.size - (intOf i).toNat)
  case atStart => exact ⟨0, s.size + 1, rfl, Nat.zero_le _, Below.refl _ _, rfl, by omega⟩
  case round =>
    obtain ⟨pos, f, rfl, hps, hbr, hf, hfu⟩ := hrel
    by_cases hp : pos < s.size
    · have hwd := width_pos s pos hp
      obtain ⟨_, _, hwe⟩ := decode_bytes s pos hp
      obtain ⟨g, rfl, hg⟩ := badFrom_step s f pos hp hfu
      have HF := hide (hf.trans hg)
      clear hf hg
      go_wp2_with fail
      refine (decodeRune_at s pos _ hp ((unhide HE).below hbr)).mono ?_
      rintro e w1 ⟨rfl, hb1⟩
      generalize hd : Utf8.decode s pos = d at *
      clear hd
      go_wp2_with (go_at_call 66; refine (refIsChar_any _ _).mono ?_; rintro e w' ⟨rfl, rfl⟩)
      all_goals first
        | (go_ret2
           refine ⟨ret_bad ?_, Below.then hbr hb1⟩
           rw [unhide HF]
           simp_all)
        | (refine ⟨⟨pos + d.2, g, by go_num, hwe, Below.then hbr hb1, ?_, by omega⟩, by simp [intOf]; omega⟩
           rw [unhide HF]
           simp_all)
    · have HF := hide (hf.trans (badFrom_end s f pos hp))
      clear hf
      go_wp2
      go_ret2
      exact ⟨ret_bad (unhide HF), hbr⟩
def textR (s : ByteArray) : Bool := decide ((badFrom s (s.size + 1) 0).1 < 0)
set_option maxHeartbeats 1000000 in
theorem refIsText_any (s : ByteArray) (w : World) (hs : s.size ≤ 4294967280) (hE : Env w) :
    Calls Tryz.prog 17 #[.string s] w fun e w' => e = .returned (.bool (textR s)) ∧ Below w.heap.size w w' := by
  have HE := hide hE
  clear hE
  go_enter Tryz.func17, Tryz.ntmps17
  go_wp2_with fail
  refine (refBad_any s _ hs (unhide HE)).mono ?_
  rintro e w1 ⟨rfl, hb1⟩
  go_wp2
  all_goals
    go_ret
    exact ⟨ret_bool (by simp [textR, *]), hb1⟩
end Go.Proofs.YthkkfldmoflfaaaGreatDoor
