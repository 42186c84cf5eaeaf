/- What a text says in a format: xsort.Read. -/
import Derived.Test.YtmjjckindnffdaaDoorSortSaidR
namespace Go.Proofs.YtmjjckindnffdaaDoor
open Go.RowKit
def LetSay (s : ByteArray) (y : Int) : Prop := s.size ≤ 7 → lettersB (Lib.toLowerD s.data.toList) = true → (Lib.toLowerD s.data.toList).length ≤ 9 → y = (letV (Lib.toLowerD s.data.toList) : Int)
def RomSay (s : ByteArray) (z : Int) : Prop := s.size ≤ 15 → (Lib.toUpperD s.data.toList).length ≤ 100 → z = (romT (Lib.toUpperD s.data.toList) : Int)
theorem letters_say (s : ByteArray) (w : World) (hE : SEnv2 w) :
    Calls Tryd.prog 29 #[.string s] w fun e w' => ∃ y, e = .returned (.int .i64 y) ∧ LetSay s y ∧ Below w.heap.size w w' := by
  by_cases h : s.size ≤ 7
  · refine (saidByLetters_any s w h hE).mono ?_
    rintro e w' ⟨⟨x, rfl, hx⟩, hb⟩
    exact ⟨x, rfl, fun _ => hx, hb⟩
  · refine (saidByLetters_long s w h).mono ?_
    rintro e w' ⟨rfl, hb⟩
    exact ⟨0, rfl, fun hs => absurd hs h, hb⟩
theorem roman_say (s : ByteArray) (w : World) (hE : SEnv2 w) :
    Calls Tryd.prog 30 #[.string s] w fun e w' => ∃ z, e = .returned (.int .i64 z) ∧ RomSay s z ∧ Below w.heap.size w w' := by
  by_cases h : s.size ≤ 15
  · refine (saidByRoman_any s w h hE).mono ?_
    rintro e w' ⟨⟨x, rfl, hx⟩, hb⟩
    exact ⟨x, rfl, fun _ => hx, hb⟩
  · refine (saidByRoman_long s w h).mono ?_
    rintro e w' ⟨rfl, hb⟩
    exact ⟨0, rfl, fun hs => absurd hs h, hb⟩
theorem index0 (x y z : Value) (w : World) : (Instr.index 60 (.agg #[x, y, z]) (.int .i64 0)).run Tryd.prog w = .ok x w := by kernel_rfl
theorem index1 (x y z : Value) (w : World) : (Instr.index 60 (.agg #[x, y, z]) (.int .i64 1)).run Tryd.prog w = .ok y w := by kernel_rfl
theorem index2 (x y z : Value) (w : World) : (Instr.index 60 (.agg #[x, y, z]) (.int .i64 2)).run Tryd.prog w = .ok z w := by kernel_rfl
/-- What Read answers. -/
def readV (r : Option Int) : Value := match r with
  | some m => .tuple #[.int .i64 m, .int .i64 0]
  | none => .tuple #[.int .i64 0, .int .i64 5]
theorem find_yes (f : Fm) (s : List UInt8) (n : Int) (r : List Int) (h : saysB f s n = true) : (n :: r).find? (saysB f s) = some n := List.find?_cons_of_pos h
theorem find_no (f : Fm) (s : List UInt8) (n : Int) (r : List Int) (h : saysB f s n = false) : (n :: r).find? (saysB f s) = r.find? (saysB f s) := List.find?_cons_of_neg (by simp [h])
theorem says_low (f : Fm) (s : List UInt8) (n : Int) (h : ¬ 1 ≤ n) : saysB f s n = false := by
  cases hb : saysB f s n with
  | false => rfl
  | true => exact absurd ((saysB_iff _ _ _).1 hb).1 h
theorem says_high (f : Fm) (s : List UInt8) (n : Int) (h : ¬ n ≤ 1000000000) : saysB f s n = false := by
  cases hb : saysB f s n with
  | false => rfl
  | true => exact absurd ((saysB_iff _ _ _).1 hb).2.1 h
theorem says_eq (f : Fm) (s : ByteArray) (n : Int) (h1 : 1 ≤ n) (h2 : n ≤ 1000000000) : saysB f s.data.toList n = ((⟨(wrF f n.toNat).toArray⟩ : ByteArray).toList == s.toList) := by
  rw [ByteArray.toList_eq, ByteArray.toList_eq, Bool.eq_iff_iff, saysB_iff, beq_iff_eq]
  constructor
  · intro h
    simpa using h.2.2
  · intro h
    exact ⟨h1, h2, by simpa using h⟩
set_option maxRecDepth 100000 in
set_option maxHeartbeats 2000000 in
theorem read_a (s : ByteArray) (w : World) (hs : s.size ≤ 281474976710656) (hE : SEnv2 w) :
    Calls Tryd.prog 13 #[.string s, .string ⟨#[97]⟩] w fun e w' => (∃ y z, LetSay s y ∧ RomSay s z ∧ e = .returned (readV (readP .a s.data.toList (digI s.data.toList) y z))) ∧ Below w.heap.size w w' := by
  have HW := hide (fun w => writer_a w)
  have HD := hide (fun w hE => saidByDigits_any s w hs hE)
  have HL := hide (fun w hE => letters_say s w hE)
  have HR := hide (fun w hE => roman_say s w hE)
  have HE := hide hE
  have HK := hide (show ∀ (n : Int) (w : World), 1 ≤ n → n ≤ 1000000000 → SEnv w → Calls Tryd.prog 17 #[.int .i64 n] w fun e w' => e = .returned (.string ⟨(wrF .a n.toNat).toArray⟩) ∧ Below w.heap.size w w' from fun n w h1 h2 hV => by
    have := letters_any n.toNat w (by omega)
    rw [show ((n.toNat : Nat) : Int) = n by omega] at this
    exact this)
  clear hE hs
  generalize digI s.data.toList = x at *
  go_enter Tryd.func13, Tryd.ntmps13
  go_wp2_with fail
  refine (unhide HW _).mono ?_
  rintro e w1 ⟨rfl, hb1⟩
  have HE1 := hide ((unhide HE).below hb1)
  go_wp2_with fail
  refine (unhide HD _ (unhide HE1)).mono ?_
  rintro e w2 ⟨rfl, hb2⟩
  have HE2 := hide ((unhide HE1).below hb2)
  go_wp2_with fail
  refine (unhide HL _ (unhide HE2)).mono ?_
  rintro e w3 ⟨y, rfl, hy, hb3⟩
  have HE3 := hide ((unhide HE2).below hb3)
  go_wp2_with fail
  refine (unhide HR _ (unhide HE3)).mono ?_
  rintro e w4 ⟨z, rfl, hz, hb4⟩
  have HE4 := hide ((unhide HE3).below hb4).toSEnv
  have hb04 := Below.then hb1 (Below.then hb2 (Below.then hb3 hb4))
  have Hy := hide hy
  have Hz := hide hz
  clear HD HL HR HE HE1 HE2 HE3 hb1 hb2 hb3 hb4 HW hy hz
  go_wp2_with fail
  go_loopw [24] (fun i wr => ∃ k : Nat, k ≤ 3 ∧ i = .int .i64 (k : Int) ∧ Hid (([x, y, z].drop k).find? (saysB .a s.data.toList) = readP .a s.data.toList x y z) ∧ Below w.heap.size w wr ∧ Hid (SEnv wr)) (fun i _ => 3 - vNat i)
  case atStart => exact ⟨0, by omega, rfl, hide rfl, hb04, HE4⟩
  case round =>
    obtain ⟨k, hk, rfl, hf, hB, hV⟩ := hrel
    have hy := unhide Hy
    have hz := unhide Hz
    clear Hy Hz hb04
    have h4 : k = 0 ∨ k = 1 ∨ k = 2 ∨ k = 3 := by omega
    clear hk
    rcases h4 with rfl | rfl | rfl | rfl
    · have hix := index0 (.int .i64 x) (.int .i64 y) (.int .i64 z)
      by_cases h1 : 1 ≤ x
      · by_cases h2 : x ≤ 1000000000
        · have HC := hide (unhide HK x wr h1 h2 (unhide hV))
          have hq := says_eq .a s x h1 h2
          cases hb : saysB .a s.data.toList x with
          | true =>
            have HF := hide ((unhide hf).symm.trans (find_yes .a s.data.toList x [y, z] hb))
            rw [hb] at hq
            clear hf hb HK
            generalize (⟨(wrF .a (x).toNat).toArray⟩ : ByteArray) = T at *
            have hq' := hq.symm
            clear hq
            go_wp2_with fail
            refine (unhide HC).mono ?_
            rintro e w5 ⟨rfl, hb5⟩
            go_wp2_with fail
            go_ret2
            exact ⟨⟨y, z, hy, hz, by rw [unhide HF]; rfl⟩, Below.then hB hb5⟩
          | false =>
            have HF := hide ((unhide hf).symm.trans (find_no .a s.data.toList x [y, z] hb))
            rw [hb] at hq
            clear hf hb HK
            generalize (⟨(wrF .a (x).toNat).toArray⟩ : ByteArray) = T at *
            have hq' := hq.symm
            clear hq
            go_wp2_with fail
            refine (unhide HC).mono ?_
            rintro e w5 ⟨rfl, hb5⟩
            go_wp2_with fail
            exact ⟨⟨1, by omega, rfl, hide (unhide HF).symm, Below.then hB hb5, hide (SEnv.below (unhide hV) hb5)⟩, by decide⟩
        · have HF := hide ((unhide hf).symm.trans (find_no .a s.data.toList x [y, z] (says_high _ _ _ h2)))
          clear hf HK
          go_wp2_with fail
          exact ⟨⟨1, by omega, rfl, hide (unhide HF).symm, hB, hV⟩, by decide⟩
      · have HF := hide ((unhide hf).symm.trans (find_no .a s.data.toList x [y, z] (says_low _ _ _ h1)))
        clear hf HK
        go_wp2_with fail
        exact ⟨⟨1, by omega, rfl, hide (unhide HF).symm, hB, hV⟩, by decide⟩
    · have hix := index1 (.int .i64 x) (.int .i64 y) (.int .i64 z)
      by_cases h1 : 1 ≤ y
      · by_cases h2 : y ≤ 1000000000
        · have HC := hide (unhide HK y wr h1 h2 (unhide hV))
          have hq := says_eq .a s y h1 h2
          cases hb : saysB .a s.data.toList y with
          | true =>
            have HF := hide ((unhide hf).symm.trans (find_yes .a s.data.toList y [z] hb))
            rw [hb] at hq
            clear hf hb HK
            generalize (⟨(wrF .a (y).toNat).toArray⟩ : ByteArray) = T at *
            have hq' := hq.symm
            clear hq
            go_wp2_with fail
            refine (unhide HC).mono ?_
            rintro e w5 ⟨rfl, hb5⟩
            go_wp2_with fail
            go_ret2
            exact ⟨⟨y, z, hy, hz, by rw [unhide HF]; rfl⟩, Below.then hB hb5⟩
          | false =>
            have HF := hide ((unhide hf).symm.trans (find_no .a s.data.toList y [z] hb))
            rw [hb] at hq
            clear hf hb HK
            generalize (⟨(wrF .a (y).toNat).toArray⟩ : ByteArray) = T at *
            have hq' := hq.symm
            clear hq
            go_wp2_with fail
            refine (unhide HC).mono ?_
            rintro e w5 ⟨rfl, hb5⟩
            go_wp2_with fail
            exact ⟨⟨2, by omega, rfl, hide (unhide HF).symm, Below.then hB hb5, hide (SEnv.below (unhide hV) hb5)⟩, by decide⟩
        · have HF := hide ((unhide hf).symm.trans (find_no .a s.data.toList y [z] (says_high _ _ _ h2)))
          clear hf HK
          go_wp2_with fail
          exact ⟨⟨2, by omega, rfl, hide (unhide HF).symm, hB, hV⟩, by decide⟩
      · have HF := hide ((unhide hf).symm.trans (find_no .a s.data.toList y [z] (says_low _ _ _ h1)))
        clear hf HK
        go_wp2_with fail
        exact ⟨⟨2, by omega, rfl, hide (unhide HF).symm, hB, hV⟩, by decide⟩
    · have hix := index2 (.int .i64 x) (.int .i64 y) (.int .i64 z)
      by_cases h1 : 1 ≤ z
      · by_cases h2 : z ≤ 1000000000
        · have HC := hide (unhide HK z wr h1 h2 (unhide hV))
          have hq := says_eq .a s z h1 h2
          cases hb : saysB .a s.data.toList z with
          | true =>
            have HF := hide ((unhide hf).symm.trans (find_yes .a s.data.toList z [] hb))
            rw [hb] at hq
            clear hf hb HK
            generalize (⟨(wrF .a (z).toNat).toArray⟩ : ByteArray) = T at *
            have hq' := hq.symm
            clear hq
            go_wp2_with fail
            refine (unhide HC).mono ?_
            rintro e w5 ⟨rfl, hb5⟩
            go_wp2_with fail
            go_ret2
            exact ⟨⟨y, z, hy, hz, by rw [unhide HF]; rfl⟩, Below.then hB hb5⟩
          | false =>
            have HF := hide ((unhide hf).symm.trans (find_no .a s.data.toList z [] hb))
            rw [hb] at hq
            clear hf hb HK
            generalize (⟨(wrF .a (z).toNat).toArray⟩ : ByteArray) = T at *
            have hq' := hq.symm
            clear hq
            go_wp2_with fail
            refine (unhide HC).mono ?_
            rintro e w5 ⟨rfl, hb5⟩
            go_wp2_with fail
            exact ⟨⟨3, by omega, rfl, hide (unhide HF).symm, Below.then hB hb5, hide (SEnv.below (unhide hV) hb5)⟩, by decide⟩
        · have HF := hide ((unhide hf).symm.trans (find_no .a s.data.toList z [] (says_high _ _ _ h2)))
          clear hf HK
          go_wp2_with fail
          exact ⟨⟨3, by omega, rfl, hide (unhide HF).symm, hB, hV⟩, by decide⟩
      · have HF := hide ((unhide hf).symm.trans (find_no .a s.data.toList z [] (says_low _ _ _ h1)))
        clear hf HK
        go_wp2_with fail
        exact ⟨⟨3, by omega, rfl, hide (unhide HF).symm, hB, hV⟩, by decide⟩
    · have HF := hide (unhide hf)
      clear hf HK
      go_wp2_with fail
      go_ret2
      exact ⟨⟨y, z, hy, hz, by rw [← unhide HF]; rfl⟩, hB⟩
set_option maxRecDepth 100000 in
set_option maxHeartbeats 2000000 in
theorem read_A (s : ByteArray) (w : World) (hs : s.size ≤ 281474976710656) (hE : SEnv2 w) :
    Calls Tryd.prog 13 #[.string s, .string ⟨#[65]⟩] w fun e w' => (∃ y z, LetSay s y ∧ RomSay s z ∧ e = .returned (readV (readP .A s.data.toList (digI s.data.toList) y z))) ∧ Below w.heap.size w w' := by
  have HW := hide (fun w => writer_A w)
  have HD := hide (fun w hE => saidByDigits_any s w hs hE)
  have HL := hide (fun w hE => letters_say s w hE)
  have HR := hide (fun w hE => roman_say s w hE)
  have HE := hide hE
  have HK := hide (show ∀ (n : Int) (w : World), 1 ≤ n → n ≤ 1000000000 → SEnv w → Calls Tryd.prog 36 #[.int .i64 n] w fun e w' => e = .returned (.string ⟨(wrF .A n.toNat).toArray⟩) ∧ Below w.heap.size w w' from fun n w h1 h2 hV => by
    have := write1_any n.toNat w (by omega)
    rw [show ((n.toNat : Nat) : Int) = n by omega] at this
    exact this)
  clear hE hs
  generalize digI s.data.toList = x at *
  go_enter Tryd.func13, Tryd.ntmps13
  go_wp2_with fail
  refine (unhide HW _).mono ?_
  rintro e w1 ⟨rfl, hb1⟩
  have HE1 := hide ((unhide HE).below hb1)
  go_wp2_with fail
  refine (unhide HD _ (unhide HE1)).mono ?_
  rintro e w2 ⟨rfl, hb2⟩
  have HE2 := hide ((unhide HE1).below hb2)
  go_wp2_with fail
  refine (unhide HL _ (unhide HE2)).mono ?_
  rintro e w3 ⟨y, rfl, hy, hb3⟩
  have HE3 := hide ((unhide HE2).below hb3)
  go_wp2_with fail
  refine (unhide HR _ (unhide HE3)).mono ?_
  rintro e w4 ⟨z, rfl, hz, hb4⟩
  have HE4 := hide ((unhide HE3).below hb4).toSEnv
  have hb04 := Below.then hb1 (Below.then hb2 (Below.then hb3 hb4))
  have Hy := hide hy
  have Hz := hide hz
  clear HD HL HR HE HE1 HE2 HE3 hb1 hb2 hb3 hb4 HW hy hz
  go_wp2_with fail
  go_loopw [24] (fun i wr => ∃ k : Nat, k ≤ 3 ∧ i = .int .i64 (k : Int) ∧ Hid (([x, y, z].drop k).find? (saysB .A s.data.toList) = readP .A s.data.toList x y z) ∧ Below w.heap.size w wr ∧ Hid (SEnv wr)) (fun i _ => 3 - vNat i)
  case atStart => exact ⟨0, by omega, rfl, hide rfl, hb04, HE4⟩
  case round =>
    obtain ⟨k, hk, rfl, hf, hB, hV⟩ := hrel
    have hy := unhide Hy
    have hz := unhide Hz
    clear Hy Hz hb04
    have h4 : k = 0 ∨ k = 1 ∨ k = 2 ∨ k = 3 := by omega
    clear hk
    rcases h4 with rfl | rfl | rfl | rfl
    · have hix := index0 (.int .i64 x) (.int .i64 y) (.int .i64 z)
      by_cases h1 : 1 ≤ x
      · by_cases h2 : x ≤ 1000000000
        · have HC := hide (unhide HK x wr h1 h2 (unhide hV))
          have hq := says_eq .A s x h1 h2
          cases hb : saysB .A s.data.toList x with
          | true =>
            have HF := hide ((unhide hf).symm.trans (find_yes .A s.data.toList x [y, z] hb))
            rw [hb] at hq
            clear hf hb HK
            generalize (⟨(wrF .A (x).toNat).toArray⟩ : ByteArray) = T at *
            have hq' := hq.symm
            clear hq
            go_wp2_with fail
            refine (unhide HC).mono ?_
            rintro e w5 ⟨rfl, hb5⟩
            go_wp2_with fail
            go_ret2
            exact ⟨⟨y, z, hy, hz, by rw [unhide HF]; rfl⟩, Below.then hB hb5⟩
          | false =>
            have HF := hide ((unhide hf).symm.trans (find_no .A s.data.toList x [y, z] hb))
            rw [hb] at hq
            clear hf hb HK
            generalize (⟨(wrF .A (x).toNat).toArray⟩ : ByteArray) = T at *
            have hq' := hq.symm
            clear hq
            go_wp2_with fail
            refine (unhide HC).mono ?_
            rintro e w5 ⟨rfl, hb5⟩
            go_wp2_with fail
            exact ⟨⟨1, by omega, rfl, hide (unhide HF).symm, Below.then hB hb5, hide (SEnv.below (unhide hV) hb5)⟩, by decide⟩
        · have HF := hide ((unhide hf).symm.trans (find_no .A s.data.toList x [y, z] (says_high _ _ _ h2)))
          clear hf HK
          go_wp2_with fail
          exact ⟨⟨1, by omega, rfl, hide (unhide HF).symm, hB, hV⟩, by decide⟩
      · have HF := hide ((unhide hf).symm.trans (find_no .A s.data.toList x [y, z] (says_low _ _ _ h1)))
        clear hf HK
        go_wp2_with fail
        exact ⟨⟨1, by omega, rfl, hide (unhide HF).symm, hB, hV⟩, by decide⟩
    · have hix := index1 (.int .i64 x) (.int .i64 y) (.int .i64 z)
      by_cases h1 : 1 ≤ y
      · by_cases h2 : y ≤ 1000000000
        · have HC := hide (unhide HK y wr h1 h2 (unhide hV))
          have hq := says_eq .A s y h1 h2
          cases hb : saysB .A s.data.toList y with
          | true =>
            have HF := hide ((unhide hf).symm.trans (find_yes .A s.data.toList y [z] hb))
            rw [hb] at hq
            clear hf hb HK
            generalize (⟨(wrF .A (y).toNat).toArray⟩ : ByteArray) = T at *
            have hq' := hq.symm
            clear hq
            go_wp2_with fail
            refine (unhide HC).mono ?_
            rintro e w5 ⟨rfl, hb5⟩
            go_wp2_with fail
            go_ret2
            exact ⟨⟨y, z, hy, hz, by rw [unhide HF]; rfl⟩, Below.then hB hb5⟩
          | false =>
            have HF := hide ((unhide hf).symm.trans (find_no .A s.data.toList y [z] hb))
            rw [hb] at hq
            clear hf hb HK
            generalize (⟨(wrF .A (y).toNat).toArray⟩ : ByteArray) = T at *
            have hq' := hq.symm
            clear hq
            go_wp2_with fail
            refine (unhide HC).mono ?_
            rintro e w5 ⟨rfl, hb5⟩
            go_wp2_with fail
            exact ⟨⟨2, by omega, rfl, hide (unhide HF).symm, Below.then hB hb5, hide (SEnv.below (unhide hV) hb5)⟩, by decide⟩
        · have HF := hide ((unhide hf).symm.trans (find_no .A s.data.toList y [z] (says_high _ _ _ h2)))
          clear hf HK
          go_wp2_with fail
          exact ⟨⟨2, by omega, rfl, hide (unhide HF).symm, hB, hV⟩, by decide⟩
      · have HF := hide ((unhide hf).symm.trans (find_no .A s.data.toList y [z] (says_low _ _ _ h1)))
        clear hf HK
        go_wp2_with fail
        exact ⟨⟨2, by omega, rfl, hide (unhide HF).symm, hB, hV⟩, by decide⟩
    · have hix := index2 (.int .i64 x) (.int .i64 y) (.int .i64 z)
      by_cases h1 : 1 ≤ z
      · by_cases h2 : z ≤ 1000000000
        · have HC := hide (unhide HK z wr h1 h2 (unhide hV))
          have hq := says_eq .A s z h1 h2
          cases hb : saysB .A s.data.toList z with
          | true =>
            have HF := hide ((unhide hf).symm.trans (find_yes .A s.data.toList z [] hb))
            rw [hb] at hq
            clear hf hb HK
            generalize (⟨(wrF .A (z).toNat).toArray⟩ : ByteArray) = T at *
            have hq' := hq.symm
            clear hq
            go_wp2_with fail
            refine (unhide HC).mono ?_
            rintro e w5 ⟨rfl, hb5⟩
            go_wp2_with fail
            go_ret2
            exact ⟨⟨y, z, hy, hz, by rw [unhide HF]; rfl⟩, Below.then hB hb5⟩
          | false =>
            have HF := hide ((unhide hf).symm.trans (find_no .A s.data.toList z [] hb))
            rw [hb] at hq
            clear hf hb HK
            generalize (⟨(wrF .A (z).toNat).toArray⟩ : ByteArray) = T at *
            have hq' := hq.symm
            clear hq
            go_wp2_with fail
            refine (unhide HC).mono ?_
            rintro e w5 ⟨rfl, hb5⟩
            go_wp2_with fail
            exact ⟨⟨3, by omega, rfl, hide (unhide HF).symm, Below.then hB hb5, hide (SEnv.below (unhide hV) hb5)⟩, by decide⟩
        · have HF := hide ((unhide hf).symm.trans (find_no .A s.data.toList z [] (says_high _ _ _ h2)))
          clear hf HK
          go_wp2_with fail
          exact ⟨⟨3, by omega, rfl, hide (unhide HF).symm, hB, hV⟩, by decide⟩
      · have HF := hide ((unhide hf).symm.trans (find_no .A s.data.toList z [] (says_low _ _ _ h1)))
        clear hf HK
        go_wp2_with fail
        exact ⟨⟨3, by omega, rfl, hide (unhide HF).symm, hB, hV⟩, by decide⟩
    · have HF := hide (unhide hf)
      clear hf HK
      go_wp2_with fail
      go_ret2
      exact ⟨⟨y, z, hy, hz, by rw [← unhide HF]; rfl⟩, hB⟩
set_option maxRecDepth 100000 in
set_option maxHeartbeats 2000000 in
theorem read_i (s : ByteArray) (w : World) (hs : s.size ≤ 281474976710656) (hE : SEnv2 w) :
    Calls Tryd.prog 13 #[.string s, .string ⟨#[105]⟩] w fun e w' => (∃ y z, LetSay s y ∧ RomSay s z ∧ e = .returned (readV (readP .i s.data.toList (digI s.data.toList) y z))) ∧ Below w.heap.size w w' := by
  have HW := hide (fun w => writer_i w)
  have HD := hide (fun w hE => saidByDigits_any s w hs hE)
  have HL := hide (fun w hE => letters_say s w hE)
  have HR := hide (fun w hE => roman_say s w hE)
  have HE := hide hE
  have HK := hide (show ∀ (n : Int) (w : World), 1 ≤ n → n ≤ 1000000000 → SEnv w → Calls Tryd.prog 38 #[.int .i64 n] w fun e w' => e = .returned (.string ⟨(wrF .i n.toNat).toArray⟩) ∧ Below w.heap.size w w' from fun n w h1 h2 hV => by
    have := write2_any n.toNat w (by omega) (by omega) hV
    rw [show ((n.toNat : Nat) : Int) = n by omega] at this
    exact this)
  clear hE hs
  generalize digI s.data.toList = x at *
  go_enter Tryd.func13, Tryd.ntmps13
  go_wp2_with fail
  refine (unhide HW _).mono ?_
  rintro e w1 ⟨rfl, hb1⟩
  have HE1 := hide ((unhide HE).below hb1)
  go_wp2_with fail
  refine (unhide HD _ (unhide HE1)).mono ?_
  rintro e w2 ⟨rfl, hb2⟩
  have HE2 := hide ((unhide HE1).below hb2)
  go_wp2_with fail
  refine (unhide HL _ (unhide HE2)).mono ?_
  rintro e w3 ⟨y, rfl, hy, hb3⟩
  have HE3 := hide ((unhide HE2).below hb3)
  go_wp2_with fail
  refine (unhide HR _ (unhide HE3)).mono ?_
  rintro e w4 ⟨z, rfl, hz, hb4⟩
  have HE4 := hide ((unhide HE3).below hb4).toSEnv
  have hb04 := Below.then hb1 (Below.then hb2 (Below.then hb3 hb4))
  have Hy := hide hy
  have Hz := hide hz
  clear HD HL HR HE HE1 HE2 HE3 hb1 hb2 hb3 hb4 HW hy hz
  go_wp2_with fail
  go_loopw [24] (fun i wr => ∃ k : Nat, k ≤ 3 ∧ i = .int .i64 (k : Int) ∧ Hid (([x, y, z].drop k).find? (saysB .i s.data.toList) = readP .i s.data.toList x y z) ∧ Below w.heap.size w wr ∧ Hid (SEnv wr)) (fun i _ => 3 - vNat i)
  case atStart => exact ⟨0, by omega, rfl, hide rfl, hb04, HE4⟩
  case round =>
    obtain ⟨k, hk, rfl, hf, hB, hV⟩ := hrel
    have hy := unhide Hy
    have hz := unhide Hz
    clear Hy Hz hb04
    have h4 : k = 0 ∨ k = 1 ∨ k = 2 ∨ k = 3 := by omega
    clear hk
    rcases h4 with rfl | rfl | rfl | rfl
    · have hix := index0 (.int .i64 x) (.int .i64 y) (.int .i64 z)
      by_cases h1 : 1 ≤ x
      · by_cases h2 : x ≤ 1000000000
        · have HC := hide (unhide HK x wr h1 h2 (unhide hV))
          have hq := says_eq .i s x h1 h2
          cases hb : saysB .i s.data.toList x with
          | true =>
            have HF := hide ((unhide hf).symm.trans (find_yes .i s.data.toList x [y, z] hb))
            rw [hb] at hq
            clear hf hb HK
            generalize (⟨(wrF .i (x).toNat).toArray⟩ : ByteArray) = T at *
            have hq' := hq.symm
            clear hq
            go_wp2_with fail
            refine (unhide HC).mono ?_
            rintro e w5 ⟨rfl, hb5⟩
            go_wp2_with fail
            go_ret2
            exact ⟨⟨y, z, hy, hz, by rw [unhide HF]; rfl⟩, Below.then hB hb5⟩
          | false =>
            have HF := hide ((unhide hf).symm.trans (find_no .i s.data.toList x [y, z] hb))
            rw [hb] at hq
            clear hf hb HK
            generalize (⟨(wrF .i (x).toNat).toArray⟩ : ByteArray) = T at *
            have hq' := hq.symm
            clear hq
            go_wp2_with fail
            refine (unhide HC).mono ?_
            rintro e w5 ⟨rfl, hb5⟩
            go_wp2_with fail
            exact ⟨⟨1, by omega, rfl, hide (unhide HF).symm, Below.then hB hb5, hide (SEnv.below (unhide hV) hb5)⟩, by decide⟩
        · have HF := hide ((unhide hf).symm.trans (find_no .i s.data.toList x [y, z] (says_high _ _ _ h2)))
          clear hf HK
          go_wp2_with fail
          exact ⟨⟨1, by omega, rfl, hide (unhide HF).symm, hB, hV⟩, by decide⟩
      · have HF := hide ((unhide hf).symm.trans (find_no .i s.data.toList x [y, z] (says_low _ _ _ h1)))
        clear hf HK
        go_wp2_with fail
        exact ⟨⟨1, by omega, rfl, hide (unhide HF).symm, hB, hV⟩, by decide⟩
    · have hix := index1 (.int .i64 x) (.int .i64 y) (.int .i64 z)
      by_cases h1 : 1 ≤ y
      · by_cases h2 : y ≤ 1000000000
        · have HC := hide (unhide HK y wr h1 h2 (unhide hV))
          have hq := says_eq .i s y h1 h2
          cases hb : saysB .i s.data.toList y with
          | true =>
            have HF := hide ((unhide hf).symm.trans (find_yes .i s.data.toList y [z] hb))
            rw [hb] at hq
            clear hf hb HK
            generalize (⟨(wrF .i (y).toNat).toArray⟩ : ByteArray) = T at *
            have hq' := hq.symm
            clear hq
            go_wp2_with fail
            refine (unhide HC).mono ?_
            rintro e w5 ⟨rfl, hb5⟩
            go_wp2_with fail
            go_ret2
            exact ⟨⟨y, z, hy, hz, by rw [unhide HF]; rfl⟩, Below.then hB hb5⟩
          | false =>
            have HF := hide ((unhide hf).symm.trans (find_no .i s.data.toList y [z] hb))
            rw [hb] at hq
            clear hf hb HK
            generalize (⟨(wrF .i (y).toNat).toArray⟩ : ByteArray) = T at *
            have hq' := hq.symm
            clear hq
            go_wp2_with fail
            refine (unhide HC).mono ?_
            rintro e w5 ⟨rfl, hb5⟩
            go_wp2_with fail
            exact ⟨⟨2, by omega, rfl, hide (unhide HF).symm, Below.then hB hb5, hide (SEnv.below (unhide hV) hb5)⟩, by decide⟩
        · have HF := hide ((unhide hf).symm.trans (find_no .i s.data.toList y [z] (says_high _ _ _ h2)))
          clear hf HK
          go_wp2_with fail
          exact ⟨⟨2, by omega, rfl, hide (unhide HF).symm, hB, hV⟩, by decide⟩
      · have HF := hide ((unhide hf).symm.trans (find_no .i s.data.toList y [z] (says_low _ _ _ h1)))
        clear hf HK
        go_wp2_with fail
        exact ⟨⟨2, by omega, rfl, hide (unhide HF).symm, hB, hV⟩, by decide⟩
    · have hix := index2 (.int .i64 x) (.int .i64 y) (.int .i64 z)
      by_cases h1 : 1 ≤ z
      · by_cases h2 : z ≤ 1000000000
        · have HC := hide (unhide HK z wr h1 h2 (unhide hV))
          have hq := says_eq .i s z h1 h2
          cases hb : saysB .i s.data.toList z with
          | true =>
            have HF := hide ((unhide hf).symm.trans (find_yes .i s.data.toList z [] hb))
            rw [hb] at hq
            clear hf hb HK
            generalize (⟨(wrF .i (z).toNat).toArray⟩ : ByteArray) = T at *
            have hq' := hq.symm
            clear hq
            go_wp2_with fail
            refine (unhide HC).mono ?_
            rintro e w5 ⟨rfl, hb5⟩
            go_wp2_with fail
            go_ret2
            exact ⟨⟨y, z, hy, hz, by rw [unhide HF]; rfl⟩, Below.then hB hb5⟩
          | false =>
            have HF := hide ((unhide hf).symm.trans (find_no .i s.data.toList z [] hb))
            rw [hb] at hq
            clear hf hb HK
            generalize (⟨(wrF .i (z).toNat).toArray⟩ : ByteArray) = T at *
            have hq' := hq.symm
            clear hq
            go_wp2_with fail
            refine (unhide HC).mono ?_
            rintro e w5 ⟨rfl, hb5⟩
            go_wp2_with fail
            exact ⟨⟨3, by omega, rfl, hide (unhide HF).symm, Below.then hB hb5, hide (SEnv.below (unhide hV) hb5)⟩, by decide⟩
        · have HF := hide ((unhide hf).symm.trans (find_no .i s.data.toList z [] (says_high _ _ _ h2)))
          clear hf HK
          go_wp2_with fail
          exact ⟨⟨3, by omega, rfl, hide (unhide HF).symm, hB, hV⟩, by decide⟩
      · have HF := hide ((unhide hf).symm.trans (find_no .i s.data.toList z [] (says_low _ _ _ h1)))
        clear hf HK
        go_wp2_with fail
        exact ⟨⟨3, by omega, rfl, hide (unhide HF).symm, hB, hV⟩, by decide⟩
    · have HF := hide (unhide hf)
      clear hf HK
      go_wp2_with fail
      go_ret2
      exact ⟨⟨y, z, hy, hz, by rw [← unhide HF]; rfl⟩, hB⟩
set_option maxRecDepth 100000 in
set_option maxHeartbeats 2000000 in
theorem read_I (s : ByteArray) (w : World) (hs : s.size ≤ 281474976710656) (hE : SEnv2 w) :
    Calls Tryd.prog 13 #[.string s, .string ⟨#[73]⟩] w fun e w' => (∃ y z, LetSay s y ∧ RomSay s z ∧ e = .returned (readV (readP .I s.data.toList (digI s.data.toList) y z))) ∧ Below w.heap.size w w' := by
  have HW := hide (fun w => writer_I w)
  have HD := hide (fun w hE => saidByDigits_any s w hs hE)
  have HL := hide (fun w hE => letters_say s w hE)
  have HR := hide (fun w hE => roman_say s w hE)
  have HE := hide hE
  have HK := hide (show ∀ (n : Int) (w : World), 1 ≤ n → n ≤ 1000000000 → SEnv w → Calls Tryd.prog 40 #[.int .i64 n] w fun e w' => e = .returned (.string ⟨(wrF .I n.toNat).toArray⟩) ∧ Below w.heap.size w w' from fun n w h1 h2 hV => by
    have := romanOrDigits_any n.toNat w (by omega) (by omega) hV
    rw [show ((n.toNat : Nat) : Int) = n by omega] at this
    exact this)
  clear hE hs
  generalize digI s.data.toList = x at *
  go_enter Tryd.func13, Tryd.ntmps13
  go_wp2_with fail
  refine (unhide HW _).mono ?_
  rintro e w1 ⟨rfl, hb1⟩
  have HE1 := hide ((unhide HE).below hb1)
  go_wp2_with fail
  refine (unhide HD _ (unhide HE1)).mono ?_
  rintro e w2 ⟨rfl, hb2⟩
  have HE2 := hide ((unhide HE1).below hb2)
  go_wp2_with fail
  refine (unhide HL _ (unhide HE2)).mono ?_
  rintro e w3 ⟨y, rfl, hy, hb3⟩
  have HE3 := hide ((unhide HE2).below hb3)
  go_wp2_with fail
  refine (unhide HR _ (unhide HE3)).mono ?_
  rintro e w4 ⟨z, rfl, hz, hb4⟩
  have HE4 := hide ((unhide HE3).below hb4).toSEnv
  have hb04 := Below.then hb1 (Below.then hb2 (Below.then hb3 hb4))
  have Hy := hide hy
  have Hz := hide hz
  clear HD HL HR HE HE1 HE2 HE3 hb1 hb2 hb3 hb4 HW hy hz
  go_wp2_with fail
  go_loopw [24] (fun i wr => ∃ k : Nat, k ≤ 3 ∧ i = .int .i64 (k : Int) ∧ Hid (([x, y, z].drop k).find? (saysB .I s.data.toList) = readP .I s.data.toList x y z) ∧ Below w.heap.size w wr ∧ Hid (SEnv wr)) (fun i _ => 3 - vNat i)
  case atStart => exact ⟨0, by omega, rfl, hide rfl, hb04, HE4⟩
  case round =>
    obtain ⟨k, hk, rfl, hf, hB, hV⟩ := hrel
    have hy := unhide Hy
    have hz := unhide Hz
    clear Hy Hz hb04
    have h4 : k = 0 ∨ k = 1 ∨ k = 2 ∨ k = 3 := by omega
    clear hk
    rcases h4 with rfl | rfl | rfl | rfl
    · have hix := index0 (.int .i64 x) (.int .i64 y) (.int .i64 z)
      by_cases h1 : 1 ≤ x
      · by_cases h2 : x ≤ 1000000000
        · have HC := hide (unhide HK x wr h1 h2 (unhide hV))
          have hq := says_eq .I s x h1 h2
          cases hb : saysB .I s.data.toList x with
          | true =>
            have HF := hide ((unhide hf).symm.trans (find_yes .I s.data.toList x [y, z] hb))
            rw [hb] at hq
            clear hf hb HK
            generalize (⟨(wrF .I (x).toNat).toArray⟩ : ByteArray) = T at *
            have hq' := hq.symm
            clear hq
            go_wp2_with fail
            refine (unhide HC).mono ?_
            rintro e w5 ⟨rfl, hb5⟩
            go_wp2_with fail
            go_ret2
            exact ⟨⟨y, z, hy, hz, by rw [unhide HF]; rfl⟩, Below.then hB hb5⟩
          | false =>
            have HF := hide ((unhide hf).symm.trans (find_no .I s.data.toList x [y, z] hb))
            rw [hb] at hq
            clear hf hb HK
            generalize (⟨(wrF .I (x).toNat).toArray⟩ : ByteArray) = T at *
            have hq' := hq.symm
            clear hq
            go_wp2_with fail
            refine (unhide HC).mono ?_
            rintro e w5 ⟨rfl, hb5⟩
            go_wp2_with fail
            exact ⟨⟨1, by omega, rfl, hide (unhide HF).symm, Below.then hB hb5, hide (SEnv.below (unhide hV) hb5)⟩, by decide⟩
        · have HF := hide ((unhide hf).symm.trans (find_no .I s.data.toList x [y, z] (says_high _ _ _ h2)))
          clear hf HK
          go_wp2_with fail
          exact ⟨⟨1, by omega, rfl, hide (unhide HF).symm, hB, hV⟩, by decide⟩
      · have HF := hide ((unhide hf).symm.trans (find_no .I s.data.toList x [y, z] (says_low _ _ _ h1)))
        clear hf HK
        go_wp2_with fail
        exact ⟨⟨1, by omega, rfl, hide (unhide HF).symm, hB, hV⟩, by decide⟩
    · have hix := index1 (.int .i64 x) (.int .i64 y) (.int .i64 z)
      by_cases h1 : 1 ≤ y
      · by_cases h2 : y ≤ 1000000000
        · have HC := hide (unhide HK y wr h1 h2 (unhide hV))
          have hq := says_eq .I s y h1 h2
          cases hb : saysB .I s.data.toList y with
          | true =>
            have HF := hide ((unhide hf).symm.trans (find_yes .I s.data.toList y [z] hb))
            rw [hb] at hq
            clear hf hb HK
            generalize (⟨(wrF .I (y).toNat).toArray⟩ : ByteArray) = T at *
            have hq' := hq.symm
            clear hq
            go_wp2_with fail
            refine (unhide HC).mono ?_
            rintro e w5 ⟨rfl, hb5⟩
            go_wp2_with fail
            go_ret2
            exact ⟨⟨y, z, hy, hz, by rw [unhide HF]; rfl⟩, Below.then hB hb5⟩
          | false =>
            have HF := hide ((unhide hf).symm.trans (find_no .I s.data.toList y [z] hb))
            rw [hb] at hq
            clear hf hb HK
            generalize (⟨(wrF .I (y).toNat).toArray⟩ : ByteArray) = T at *
            have hq' := hq.symm
            clear hq
            go_wp2_with fail
            refine (unhide HC).mono ?_
            rintro e w5 ⟨rfl, hb5⟩
            go_wp2_with fail
            exact ⟨⟨2, by omega, rfl, hide (unhide HF).symm, Below.then hB hb5, hide (SEnv.below (unhide hV) hb5)⟩, by decide⟩
        · have HF := hide ((unhide hf).symm.trans (find_no .I s.data.toList y [z] (says_high _ _ _ h2)))
          clear hf HK
          go_wp2_with fail
          exact ⟨⟨2, by omega, rfl, hide (unhide HF).symm, hB, hV⟩, by decide⟩
      · have HF := hide ((unhide hf).symm.trans (find_no .I s.data.toList y [z] (says_low _ _ _ h1)))
        clear hf HK
        go_wp2_with fail
        exact ⟨⟨2, by omega, rfl, hide (unhide HF).symm, hB, hV⟩, by decide⟩
    · have hix := index2 (.int .i64 x) (.int .i64 y) (.int .i64 z)
      by_cases h1 : 1 ≤ z
      · by_cases h2 : z ≤ 1000000000
        · have HC := hide (unhide HK z wr h1 h2 (unhide hV))
          have hq := says_eq .I s z h1 h2
          cases hb : saysB .I s.data.toList z with
          | true =>
            have HF := hide ((unhide hf).symm.trans (find_yes .I s.data.toList z [] hb))
            rw [hb] at hq
            clear hf hb HK
            generalize (⟨(wrF .I (z).toNat).toArray⟩ : ByteArray) = T at *
            have hq' := hq.symm
            clear hq
            go_wp2_with fail
            refine (unhide HC).mono ?_
            rintro e w5 ⟨rfl, hb5⟩
            go_wp2_with fail
            go_ret2
            exact ⟨⟨y, z, hy, hz, by rw [unhide HF]; rfl⟩, Below.then hB hb5⟩
          | false =>
            have HF := hide ((unhide hf).symm.trans (find_no .I s.data.toList z [] hb))
            rw [hb] at hq
            clear hf hb HK
            generalize (⟨(wrF .I (z).toNat).toArray⟩ : ByteArray) = T at *
            have hq' := hq.symm
            clear hq
            go_wp2_with fail
            refine (unhide HC).mono ?_
            rintro e w5 ⟨rfl, hb5⟩
            go_wp2_with fail
            exact ⟨⟨3, by omega, rfl, hide (unhide HF).symm, Below.then hB hb5, hide (SEnv.below (unhide hV) hb5)⟩, by decide⟩
        · have HF := hide ((unhide hf).symm.trans (find_no .I s.data.toList z [] (says_high _ _ _ h2)))
          clear hf HK
          go_wp2_with fail
          exact ⟨⟨3, by omega, rfl, hide (unhide HF).symm, hB, hV⟩, by decide⟩
      · have HF := hide ((unhide hf).symm.trans (find_no .I s.data.toList z [] (says_low _ _ _ h1)))
        clear hf HK
        go_wp2_with fail
        exact ⟨⟨3, by omega, rfl, hide (unhide HF).symm, hB, hV⟩, by decide⟩
    · have HF := hide (unhide hf)
      clear hf HK
      go_wp2_with fail
      go_ret2
      exact ⟨⟨y, z, hy, hz, by rw [← unhide HF]; rfl⟩, hB⟩
theorem keepC {q : Nat} {g : ByteArray} {w w' : World} (h : SEnv w ∧ w.cell? ⟨q, 0, none⟩ = some (.string g)) (hb : Below w.heap.size w w') : SEnv w' ∧ w'.cell? ⟨q, 0, none⟩ = some (.string g) := ⟨h.1.below hb, kept_cell hb h.2⟩
set_option maxRecDepth 100000 in
set_option maxHeartbeats 2000000 in
theorem read_d (s : ByteArray) (g : ByteArray) (w : World) (hs : s.size ≤ 281474976710656) (hE : SEnv2 w) (hg : g.size ≤ 1048576) (h : g ≠ ⟨#[97]⟩ ∧ g ≠ ⟨#[65]⟩ ∧ g ≠ ⟨#[105]⟩ ∧ g ≠ ⟨#[73]⟩) (ht : Lib.trimLeftB g.data.toList 48 = [49]) :
    Calls Tryd.prog 13 #[.string s, .string g] w fun e w' => (∃ y z, LetSay s y ∧ RomSay s z ∧ e = .returned (readV (readP (.d g.size) s.data.toList (digI s.data.toList) y z))) ∧ Below w.heap.size w w' := by
  have HW := hide (fun w => writer_d g w h ht)
  have HD := hide (fun w hE => saidByDigits_any s w hs hE)
  have HL := hide (fun w hE => letters_say s w hE)
  have HR := hide (fun w hE => roman_say s w hE)
  have HE := hide hE
  have HK := hide (show ∀ (n : Int) (u : World), 1 ≤ n → n ≤ 1000000000 → (SEnv u ∧ u.cell? ⟨w.heap.size, 0, none⟩ = some (.string g)) → Calls Tryd.prog 42 #[.int .i64 n, .pointer (some ⟨w.heap.size, 0, none⟩)] u fun e w' => e = .returned (.string ⟨(wrF (.d g.size) n.toNat).toArray⟩) ∧ Below u.heap.size u w' from fun n u h1 h2 hV => by
    have := write3_any n.toNat w.heap.size g u (by omega) hg hV.1 hV.2
    rw [show ((n.toNat : Nat) : Int) = n by omega] at this
    exact this)
  clear hE hs h ht hg
  generalize digI s.data.toList = x at *
  go_enter Tryd.func13, Tryd.ntmps13
  go_wp2_with fail
  refine (unhide HW _).mono ?_
  rintro e w1 ⟨rfl, hb1, hc1⟩
  have HE1 := hide ((unhide HE).below hb1)
  go_wp2_with fail
  refine (unhide HD _ (unhide HE1)).mono ?_
  rintro e w2 ⟨rfl, hb2⟩
  have HE2 := hide ((unhide HE1).below hb2)
  go_wp2_with fail
  refine (unhide HL _ (unhide HE2)).mono ?_
  rintro e w3 ⟨y, rfl, hy, hb3⟩
  have HE3 := hide ((unhide HE2).below hb3)
  go_wp2_with fail
  refine (unhide HR _ (unhide HE3)).mono ?_
  rintro e w4 ⟨z, rfl, hz, hb4⟩
  have HE4 := hide ((unhide HE3).below hb4).toSEnv
  have hc4 := kept_cell hb4 (kept_cell hb3 (kept_cell hb2 hc1))
  have HV4 := hide (⟨unhide HE4, hc4⟩ : SEnv w4 ∧ w4.cell? ⟨w.heap.size, 0, none⟩ = some (.string g))
  have hb04 := Below.then hb1 (Below.then hb2 (Below.then hb3 hb4))
  have Hy := hide hy
  have Hz := hide hz
  clear HD HL HR HE HE1 HE2 HE3 hb1 hb2 hb3 hb4 HW hy hz hc1 hc4
  go_wp2_with fail
  go_loopw [24] (fun i wr => ∃ k : Nat, k ≤ 3 ∧ i = .int .i64 (k : Int) ∧ Hid (([x, y, z].drop k).find? (saysB (.d g.size) s.data.toList) = readP (.d g.size) s.data.toList x y z) ∧ Below w.heap.size w wr ∧ Hid (SEnv wr ∧ wr.cell? ⟨w.heap.size, 0, none⟩ = some (.string g))) (fun i _ => 3 - vNat i)
  case atStart => exact ⟨0, by omega, rfl, hide rfl, hb04, HV4⟩
  case round =>
    obtain ⟨k, hk, rfl, hf, hB, hV⟩ := hrel
    have hy := unhide Hy
    have hz := unhide Hz
    clear Hy Hz hb04
    have h4 : k = 0 ∨ k = 1 ∨ k = 2 ∨ k = 3 := by omega
    clear hk
    rcases h4 with rfl | rfl | rfl | rfl
    · have hix := index0 (.int .i64 x) (.int .i64 y) (.int .i64 z)
      by_cases h1 : 1 ≤ x
      · by_cases h2 : x ≤ 1000000000
        · have HC := hide (unhide HK x wr h1 h2 (unhide hV))
          have hq := says_eq (.d g.size) s x h1 h2
          cases hb : saysB (.d g.size) s.data.toList x with
          | true =>
            have HF := hide ((unhide hf).symm.trans (find_yes (.d g.size) s.data.toList x [y, z] hb))
            rw [hb] at hq
            clear hf hb HK
            generalize (⟨(wrF (.d g.size) (x).toNat).toArray⟩ : ByteArray) = T at *
            have hq' := hq.symm
            clear hq
            go_wp2_with fail
            refine (unhide HC).mono ?_
            rintro e w5 ⟨rfl, hb5⟩
            go_wp2_with fail
            go_ret2
            exact ⟨⟨y, z, hy, hz, by rw [unhide HF]; rfl⟩, Below.then hB hb5⟩
          | false =>
            have HF := hide ((unhide hf).symm.trans (find_no (.d g.size) s.data.toList x [y, z] hb))
            rw [hb] at hq
            clear hf hb HK
            generalize (⟨(wrF (.d g.size) (x).toNat).toArray⟩ : ByteArray) = T at *
            have hq' := hq.symm
            clear hq
            go_wp2_with fail
            refine (unhide HC).mono ?_
            rintro e w5 ⟨rfl, hb5⟩
            go_wp2_with fail
            exact ⟨⟨1, by omega, rfl, hide (unhide HF).symm, Below.then hB hb5, hide (keepC (unhide hV) hb5)⟩, by decide⟩
        · have HF := hide ((unhide hf).symm.trans (find_no (.d g.size) s.data.toList x [y, z] (says_high _ _ _ h2)))
          clear hf HK
          go_wp2_with fail
          exact ⟨⟨1, by omega, rfl, hide (unhide HF).symm, hB, hV⟩, by decide⟩
      · have HF := hide ((unhide hf).symm.trans (find_no (.d g.size) s.data.toList x [y, z] (says_low _ _ _ h1)))
        clear hf HK
        go_wp2_with fail
        exact ⟨⟨1, by omega, rfl, hide (unhide HF).symm, hB, hV⟩, by decide⟩
    · have hix := index1 (.int .i64 x) (.int .i64 y) (.int .i64 z)
      by_cases h1 : 1 ≤ y
      · by_cases h2 : y ≤ 1000000000
        · have HC := hide (unhide HK y wr h1 h2 (unhide hV))
          have hq := says_eq (.d g.size) s y h1 h2
          cases hb : saysB (.d g.size) s.data.toList y with
          | true =>
            have HF := hide ((unhide hf).symm.trans (find_yes (.d g.size) s.data.toList y [z] hb))
            rw [hb] at hq
            clear hf hb HK
            generalize (⟨(wrF (.d g.size) (y).toNat).toArray⟩ : ByteArray) = T at *
            have hq' := hq.symm
            clear hq
            go_wp2_with fail
            refine (unhide HC).mono ?_
            rintro e w5 ⟨rfl, hb5⟩
            go_wp2_with fail
            go_ret2
            exact ⟨⟨y, z, hy, hz, by rw [unhide HF]; rfl⟩, Below.then hB hb5⟩
          | false =>
            have HF := hide ((unhide hf).symm.trans (find_no (.d g.size) s.data.toList y [z] hb))
            rw [hb] at hq
            clear hf hb HK
            generalize (⟨(wrF (.d g.size) (y).toNat).toArray⟩ : ByteArray) = T at *
            have hq' := hq.symm
            clear hq
            go_wp2_with fail
            refine (unhide HC).mono ?_
            rintro e w5 ⟨rfl, hb5⟩
            go_wp2_with fail
            exact ⟨⟨2, by omega, rfl, hide (unhide HF).symm, Below.then hB hb5, hide (keepC (unhide hV) hb5)⟩, by decide⟩
        · have HF := hide ((unhide hf).symm.trans (find_no (.d g.size) s.data.toList y [z] (says_high _ _ _ h2)))
          clear hf HK
          go_wp2_with fail
          exact ⟨⟨2, by omega, rfl, hide (unhide HF).symm, hB, hV⟩, by decide⟩
      · have HF := hide ((unhide hf).symm.trans (find_no (.d g.size) s.data.toList y [z] (says_low _ _ _ h1)))
        clear hf HK
        go_wp2_with fail
        exact ⟨⟨2, by omega, rfl, hide (unhide HF).symm, hB, hV⟩, by decide⟩
    · have hix := index2 (.int .i64 x) (.int .i64 y) (.int .i64 z)
      by_cases h1 : 1 ≤ z
      · by_cases h2 : z ≤ 1000000000
        · have HC := hide (unhide HK z wr h1 h2 (unhide hV))
          have hq := says_eq (.d g.size) s z h1 h2
          cases hb : saysB (.d g.size) s.data.toList z with
          | true =>
            have HF := hide ((unhide hf).symm.trans (find_yes (.d g.size) s.data.toList z [] hb))
            rw [hb] at hq
            clear hf hb HK
            generalize (⟨(wrF (.d g.size) (z).toNat).toArray⟩ : ByteArray) = T at *
            have hq' := hq.symm
            clear hq
            go_wp2_with fail
            refine (unhide HC).mono ?_
            rintro e w5 ⟨rfl, hb5⟩
            go_wp2_with fail
            go_ret2
            exact ⟨⟨y, z, hy, hz, by rw [unhide HF]; rfl⟩, Below.then hB hb5⟩
          | false =>
            have HF := hide ((unhide hf).symm.trans (find_no (.d g.size) s.data.toList z [] hb))
            rw [hb] at hq
            clear hf hb HK
            generalize (⟨(wrF (.d g.size) (z).toNat).toArray⟩ : ByteArray) = T at *
            have hq' := hq.symm
            clear hq
            go_wp2_with fail
            refine (unhide HC).mono ?_
            rintro e w5 ⟨rfl, hb5⟩
            go_wp2_with fail
            exact ⟨⟨3, by omega, rfl, hide (unhide HF).symm, Below.then hB hb5, hide (keepC (unhide hV) hb5)⟩, by decide⟩
        · have HF := hide ((unhide hf).symm.trans (find_no (.d g.size) s.data.toList z [] (says_high _ _ _ h2)))
          clear hf HK
          go_wp2_with fail
          exact ⟨⟨3, by omega, rfl, hide (unhide HF).symm, hB, hV⟩, by decide⟩
      · have HF := hide ((unhide hf).symm.trans (find_no (.d g.size) s.data.toList z [] (says_low _ _ _ h1)))
        clear hf HK
        go_wp2_with fail
        exact ⟨⟨3, by omega, rfl, hide (unhide HF).symm, hB, hV⟩, by decide⟩
    · have HF := hide (unhide hf)
      clear hf HK
      go_wp2_with fail
      go_ret2
      exact ⟨⟨y, z, hy, hz, by rw [← unhide HF]; rfl⟩, hB⟩
end Go.Proofs.YtmjjckindnffdaaDoor
