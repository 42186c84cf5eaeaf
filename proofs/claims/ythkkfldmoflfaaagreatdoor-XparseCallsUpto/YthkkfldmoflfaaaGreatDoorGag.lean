/- Several texts, laid as one. -/
import Derived.Test.YthkkfldmoflfaaaGreatDoorGaf
import Derived.Lib.RuneBytes
import Derived.Lib.TrimUEq
/- UTF-16 is read: xchar's unitOf, isPair, joinPair, firstWide and decodeWide. -/
namespace Go.Proofs.YthkkfldmoflfaaaGreatDoor
open Go.RowKit
end Go.Proofs.YthkkfldmoflfaaaGreatDoor
/- UTF-16 is read, character by character: xchar's decodeWide. -/
namespace Go.Proofs.YthkkfldmoflfaaaGreatDoor
open Go.RowKit
/-- A character's bytes in UTF-8. -/
def runeB (r : Nat) : List UInt8 := (Lib.encodeRuneZ (r : Int)).map fun z => UInt8.ofNat z.toNat
theorem runeB_len (r : Nat) : (runeB r).length ≤ 4 := by
  unfold runeB Lib.encodeRuneZ
  repeat' split
  all_goals simp
end Go.Proofs.YthkkfldmoflfaaaGreatDoor
/- What is encoded is decoded, and what is decoded is encoded: plain lemmas. -/
namespace Go.Proofs.YthkkfldmoflfaaaGreatDoor
open Go.RowKit
def okR (r : Nat) : Prop := r < 55296 ∨ (57344 ≤ r ∧ r ≤ 1114111)
theorem runeB_one {r : Nat} (h : r < 128) : runeB r = [UInt8.ofNat r] := by
  unfold runeB; rw [Lib.encodeRuneZ_one (by omega) (by omega)]; rfl
theorem runeB_two {r : Nat} (h : 128 ≤ r) (h' : r < 2048) : runeB r = [UInt8.ofNat (192 + r / 64), UInt8.ofNat (128 + r % 64)] := by
  unfold runeB; rw [Lib.encodeRuneZ_two (by omega) (by omega)]
  simp only [List.map_cons, List.map_nil]
  rw [show (192 + (r : Int) / 64).toNat = 192 + r / 64 by omega, show (128 + (r : Int) % 64).toNat = 128 + r % 64 by omega]
theorem runeB_three {r : Nat} (h : 2048 ≤ r) (h' : r < 65536) (ho : okR r) : runeB r = [UInt8.ofNat (224 + r / 4096), UInt8.ofNat (128 + r / 64 % 64), UInt8.ofNat (128 + r % 64)] := by
  unfold okR at ho
  unfold runeB; rw [Lib.encodeRuneZ_three (by omega)]
  simp only [List.map_cons, List.map_nil]
  rw [show (224 + (r : Int) / 4096).toNat = 224 + r / 4096 by omega, show (128 + (r : Int) / 64 % 64).toNat = 128 + r / 64 % 64 by omega, show (128 + (r : Int) % 64).toNat = 128 + r % 64 by omega]
theorem runeB_four {r : Nat} (h : 65536 ≤ r) (h' : r ≤ 1114111) : runeB r = [UInt8.ofNat (240 + r / 262144), UInt8.ofNat (128 + r / 4096 % 64), UInt8.ofNat (128 + r / 64 % 64), UInt8.ofNat (128 + r % 64)] := by
  unfold runeB; rw [Lib.encodeRuneZ_four (by omega) (by omega)]
  simp only [List.map_cons, List.map_nil]
  rw [show (240 + (r : Int) / 262144).toNat = 240 + r / 262144 by omega, show (128 + (r : Int) / 4096 % 64).toNat = 128 + r / 4096 % 64 by omega, show (128 + (r : Int) / 64 % 64).toNat = 128 + r / 64 % 64 by omega, show (128 + (r : Int) % 64).toNat = 128 + r % 64 by omega]
theorem u8_nat {n : Nat} (h : n < 256) : (UInt8.ofNat n).toNat = n := by rw [UInt8.toNat_ofNat']; omega
set_option maxHeartbeats 2000000 in
/-- What is encoded is decoded. -/
theorem dec_rune (r : Nat) (ho : okR r) (t : List UInt8) : Lib.decodeL (runeB r ++ t) = (r, (runeB r).length) := by
  rw [Lib.decodeL_N]
  have ho' := ho
  unfold okR at ho'
  by_cases h1 : r < 128
  · rw [runeB_one h1]
    simp only [List.cons_append, List.nil_append, List.getD_cons_zero, u8_nat (show r < 256 by omega), Lib.decodeN, if_pos h1, List.length_cons, List.length_nil]
  · by_cases h2 : r < 2048
    · rw [runeB_two (by omega) h2]
      simp only [List.cons_append, List.nil_append, List.getD_cons_zero, List.getD_cons_succ, List.length_cons, List.length_nil, u8_nat (show 192 + r / 64 < 256 by omega), u8_nat (show 128 + r % 64 < 256 by omega), Lib.decodeN]
      rw [if_neg (by omega), if_pos ⟨by omega, by omega, by omega⟩, if_pos (by omega)]
      apply Prod.ext <;> simp only <;> omega
    · by_cases h3 : r < 65536
      · rw [runeB_three (by omega) h3 ho]
        simp only [List.cons_append, List.nil_append, List.getD_cons_zero, List.getD_cons_succ, List.length_cons, List.length_nil, u8_nat (show 224 + r / 4096 < 256 by omega), u8_nat (show 128 + r / 64 % 64 < 256 by omega), u8_nat (show 128 + r % 64 < 256 by omega), Lib.decodeN]
        rw [if_neg (by omega), if_neg (by omega), if_pos ⟨by omega, ⟨by omega, by omega⟩, by omega, by omega⟩, if_pos (by omega)]
        apply Prod.ext <;> simp only <;> omega
      · rw [runeB_four (by omega) (by omega)]
        simp only [List.cons_append, List.nil_append, List.getD_cons_zero, List.getD_cons_succ, List.length_cons, List.length_nil, u8_nat (show 240 + r / 262144 < 256 by omega), u8_nat (show 128 + r / 4096 % 64 < 256 by omega), u8_nat (show 128 + r / 64 % 64 < 256 by omega), u8_nat (show 128 + r % 64 < 256 by omega), Lib.decodeN]
        rw [if_neg (by omega), if_neg (by omega), if_neg (by omega), if_pos ⟨by omega, ⟨by omega, by omega⟩, ⟨by omega, by omega⟩, by omega, by omega⟩, if_pos (by omega)]
        apply Prod.ext <;> simp only <;> omega
theorem u8_back {c : UInt8} {n : Nat} (h : c.toNat = n) : c = UInt8.ofNat n := by
  rw [← h]; simp
set_option maxHeartbeats 4000000 in
/-- What is decoded, and is no fault, is encoded as it was. -/
theorem rune_dec (l : List UInt8) (hl : l ≠ []) (hb : ¬ ((Lib.decodeL l).1 = 65533 ∧ (Lib.decodeL l).2 = 1)) : okR (Lib.decodeL l).1 ∧ l = runeB (Lib.decodeL l).1 ++ l.drop (Lib.decodeL l).2 := by
  rw [Lib.decodeL_N] at *
  match l, hl with
  | b0 :: t, _ =>
  have c0 := b0.toNat_lt
  simp only [List.getD_cons_zero] at *
  by_cases h0 : b0.toNat < 128
  · have e : Lib.decodeN (b0 :: t).length b0.toNat ((b0 :: t).getD 1 0).toNat ((b0 :: t).getD 2 0).toNat ((b0 :: t).getD 3 0).toNat = (b0.toNat, 1) := by rw [Lib.decodeN, if_pos h0]
    rw [e]
    refine ⟨.inl (by simp only; omega), ?_⟩
    simp only
    rw [runeB_one h0]
    simp
  · match t with
    | [] =>
      exfalso; apply hb
      simp only [List.length_cons, List.length_nil, Lib.decodeN]
      rw [if_neg h0, if_neg (by omega), if_neg (by omega), if_neg (by omega)]
      exact ⟨rfl, rfl⟩
    | b1 :: t =>
    have c1 := b1.toNat_lt
    simp only [List.getD_cons_zero, List.getD_cons_succ, List.length_cons] at *
    by_cases h1 : b0.toNat / 32 = 6 ∧ (1 < t.length + 1 + 1 ∧ b1.toNat / 64 = 2)
    · rw [Lib.decodeN, if_neg h0, if_pos h1] at *
      by_cases hv : b0.toNat % 32 * 64 + b1.toNat % 64 ≥ 128
      · rw [if_pos hv] at *
        refine ⟨.inl (by simp only; omega), ?_⟩
        simp only
        rw [runeB_two (by omega) (by omega), ← u8_back (show b0.toNat = _ by omega), ← u8_back (show b1.toNat = _ by omega)]
        rfl
      · rw [if_neg hv] at hb; exact absurd ⟨rfl, rfl⟩ hb
    · match t with
      | [] =>
        exfalso; apply hb
        simp only [List.length_nil, Lib.decodeN]
        rw [if_neg h0, if_neg (by simpa using h1), if_neg (by omega), if_neg (by omega)]
        exact ⟨rfl, rfl⟩
      | b2 :: t =>
      have c2 := b2.toNat_lt
      simp only [List.getD_cons_zero, List.getD_cons_succ, List.length_cons] at *
      by_cases h2 : b0.toNat / 16 = 14 ∧ (1 < t.length + 1 + 1 + 1 ∧ b1.toNat / 64 = 2) ∧ (2 < t.length + 1 + 1 + 1 ∧ b2.toNat / 64 = 2)
      · rw [Lib.decodeN, if_neg h0, if_neg h1, if_pos h2] at *
        split at hb
        · rename_i hv
          rw [if_pos hv]
          have ho : okR (b0.toNat % 16 * 4096 + b1.toNat % 64 * 64 + b2.toNat % 64) := by unfold okR; omega
          refine ⟨ho, ?_⟩
          simp only
          rw [runeB_three (by omega) (by omega) ho, ← u8_back (show b0.toNat = _ by omega), ← u8_back (show b1.toNat = _ by omega), ← u8_back (show b2.toNat = _ by omega)]
          rfl
        · exact absurd ⟨rfl, rfl⟩ hb
      · match t with
        | [] =>
          exfalso; apply hb
          simp only [List.length_nil, Lib.decodeN]
          rw [if_neg h0, if_neg (by simpa using h1), if_neg (by simpa using h2), if_neg (by omega)]
          exact ⟨rfl, rfl⟩
        | b3 :: t =>
        have c3 := b3.toNat_lt
        simp only [List.getD_cons_zero, List.length_cons] at *
        by_cases h3 : b0.toNat / 8 = 30 ∧ (1 < t.length + 1 + 1 + 1 + 1 ∧ b1.toNat / 64 = 2) ∧ (2 < t.length + 1 + 1 + 1 + 1 ∧ b2.toNat / 64 = 2) ∧ (3 < t.length + 1 + 1 + 1 + 1 ∧ b3.toNat / 64 = 2)
        · rw [Lib.decodeN, if_neg h0, if_neg h1, if_neg h2, if_pos h3] at *
          split at hb
          · rename_i hv
            rw [if_pos hv]
            have ho : okR (b0.toNat % 8 * 262144 + b1.toNat % 64 * 4096 + b2.toNat % 64 * 64 + b3.toNat % 64) := by unfold okR; omega
            refine ⟨ho, ?_⟩
            simp only
            rw [runeB_four (by omega) (by omega), ← u8_back (show b0.toNat = _ by omega), ← u8_back (show b1.toNat = _ by omega), ← u8_back (show b2.toNat = _ by omega), ← u8_back (show b3.toNat = _ by omega)]
            rfl
          · exact absurd ⟨rfl, rfl⟩ hb
        · exfalso; apply hb
          rw [Lib.decodeN, if_neg h0, if_neg h1, if_neg h2, if_neg h3]
          exact ⟨rfl, rfl⟩
theorem charR_ok {r : Nat} (h : charR (r : Int) = true) : okR r := by
  unfold charR at h
  unfold okR
  simp at h
  omega
theorem runeB_first {r : Nat} (ho : okR r) : ∃ c t, runeB r = c :: t ∧ c.toNat < 248 ∧ (c.toNat = 13 → r = 13) := by
  have ho' := ho
  unfold okR at ho'
  by_cases h1 : r < 128
  · exact ⟨_, _, runeB_one h1, by rw [u8_nat (by omega)]; omega, by rw [u8_nat (by omega)]; exact id⟩
  · by_cases h2 : r < 2048
    · exact ⟨_, _, runeB_two (by omega) h2, by rw [u8_nat (by omega)]; omega, by rw [u8_nat (by omega)]; omega⟩
    · by_cases h3 : r < 65536
      · exact ⟨_, _, runeB_three (by omega) h3 ho, by rw [u8_nat (by omega)]; omega, by rw [u8_nat (by omega)]; omega⟩
      · exact ⟨_, _, runeB_four (by omega) (by omega), by rw [u8_nat (by omega)]; omega, by rw [u8_nat (by omega)]; omega⟩
/-- A text: characters that may be, one behind the other. -/
def Txt (l : List UInt8) : Prop := ∃ rs : List Nat, (∀ r ∈ rs, charR (r : Int) = true) ∧ l = rs.flatMap runeB
end Go.Proofs.YthkkfldmoflfaaaGreatDoor
