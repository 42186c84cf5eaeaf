/- The reference's formats: plain, and Format. -/
import Derived.Test.YtmjjckindnffdaaDoorSortRefC
import Derived.Test.YtmjjckindnffdaaDoorSortSaidR
namespace Go.Proofs.YtmjjckindnffdaaDoor
open Go.RowKit
/-- Noughts and a 1. -/
def plainB (s : List UInt8) : Bool := decide (Lib.trimLeftB s 48 = [49])
theorem plain_no (t : List UInt8) (k : Nat) (hk : k + 1 < t.length) (h0 : ∀ j (hj : j < k), t[j]'(by omega) = 48) (h : t[k] ≠ 48) : plainB t = false := by
  have e : t = List.replicate k 48 ++ t.drop k := by
    conv => lhs; rw [← List.take_append_drop k t]
    congr 1
    apply List.ext_getElem
    · simp; omega
    · intro i h1 h2
      simp at h1 h2 ⊢
      exact h0 i (by omega)
  have e2 : t.drop k = t[k] :: t.drop (k + 1) := List.drop_eq_getElem_cons (by omega)
  unfold plainB Lib.trimLeftB
  rw [e, e2, List.dropWhile_append_of_pos (by intro x hx; rw [(List.mem_replicate.1 hx).2]; rfl), List.dropWhile_cons_of_neg (by simpa using h)]
  have : t.drop (k + 1) ≠ [] := by
    intro hn
    have := congrArg List.length hn
    simp at this
    omega
  cases hd : t.drop (k + 1) with
  | nil => exact absurd hd this
  | cons x r => simp
theorem plain_last (t : List UInt8) (k : Nat) (hk : k + 1 = t.length) (h0 : ∀ j (hj : j < k), t[j]'(by omega) = 48) : plainB t = (t[k]'(by omega) == 49) := by
  have e : t = List.replicate k 48 ++ [t[k]'(by omega)] := by
    apply List.ext_getElem
    · simp; omega
    · intro i h1 h2
      by_cases hi : i < k
      · rw [List.getElem_append_left (by simpa using hi), h0 i hi]
        simp
      · have : i = k := by omega
        subst this
        rw [List.getElem_append_right (by simp)]
        simp
  unfold plainB Lib.trimLeftB
  conv => lhs; rw [e]
  rw [List.dropWhile_append_of_pos (by intro x hx; rw [(List.mem_replicate.1 hx).2]; rfl)]
  generalize t[k]'(by omega) = c
  by_cases h48 : c = 48
  · subst h48
    rfl
  · rw [List.dropWhile_cons_of_neg (by simpa using h48)]
    by_cases h49 : c = 49
    · subst h49
      rfl
    · simp [h49]
theorem u8_eq (c : UInt8) (n : Nat) (hn : n < 256) : ((c.toNat : Int) == (n : Int)) = (c == UInt8.ofNat n) := by
  by_cases h : c = UInt8.ofNat n
  · subst h
    rw [byte_small n hn]
    simp
  · have : c.toNat ≠ n := fun e => h (UInt8.toNat_inj.1 (by rw [byte_small n hn]; exact e))
    rw [beq_eq_false_iff_ne.2 h, beq_eq_false_iff_ne.2 (by omega)]
set_option maxRecDepth 100000 in
set_option maxHeartbeats 1000000 in
theorem refPlain_any (t : List UInt8) (w : World) (hs : t.length ≤ 1000000) :
    Calls Tryd.prog 24 #[.string ⟨t.toArray⟩] w fun e w' => e = .returned (.bool (plainB t)) ∧ Below w.heap.size w w' := by
  have hsz0 : (⟨t.toArray⟩ : ByteArray).size = t.length := mk_size t
  go_enter Tryd.func24, Tryd.ntmps24
  go_wp2_with fail
  go_loop [3] (fun i => ∃ k : Nat, k ≤ t.length ∧ i = .int .i64 (k : Int) ∧ ∀ j (hj : j < k) (hjl : j < t.length), t[j] = 48) (fun i => t.length - vNat i)
  case atStart => exact ⟨0, Nat.zero_le _, rfl, fun j hj => absurd hj (by omega)⟩
  case round =>
    obtain ⟨k, hk, rfl, h0⟩ := hrel
    by_cases hlt : k + 1 < t.length
    · have hks : k < (⟨t.toArray⟩ : ByteArray).size := by omega
      have hks' : (k : Int) < ((⟨t.toArray⟩ : ByteArray).size : Int) := by omega
      have hk1 : (k : Int) + 1 < ((⟨t.toArray⟩ : ByteArray).size : Int) := by omega
      have hq : (((((⟨t.toArray⟩ : ByteArray)[k]'hks).toNat : Nat) : Int) == 48) = (t[k] == 48) := u8_eq t[k] 48 (by omega)
      by_cases h48 : t[k] = 48
      · rw [h48] at hq
        have hq' : (((((⟨t.toArray⟩ : ByteArray)[k]'hks).toNat : Nat) : Int) == 48) = true := hq
        clear hq
        have HN := hide (show ∀ j (hj : j < k + 1) (hjl : j < t.length), t[j] = 48 from fun j hj hjl => by
          by_cases e : j < k
          · exact h0 j e hjl
          · have : j = k := by omega
            subst this
            exact h48)
        clear h0 h48
        generalize (⟨t.toArray⟩ : ByteArray) = S at *
        go_wp2
        refine ⟨⟨k + 1, by omega, by rw [Int.natCast_add]; rfl, unhide HN⟩, ?_⟩
        show t.length - ((k : Int) + 1).toNat < t.length - (k : Int).toNat
        omega
      · have hq' : (((((⟨t.toArray⟩ : ByteArray)[k]'hks).toNat : Nat) : Int) == 48) = false := by
          rw [hq]
          simpa using h48
        clear hq
        have HN := hide (plain_no t k hlt (fun j hj => h0 j hj (by omega)) h48)
        clear h0 h48
        generalize (⟨t.toArray⟩ : ByteArray) = S at *
        go_wp2
        go_ret
        exact ⟨by rw [unhide HN]; rfl, Below.refl _ _⟩
    · have hk1 : ¬ (k : Int) + 1 < ((⟨t.toArray⟩ : ByteArray).size : Int) := by omega
      by_cases he : t.length = 0
      · have : t = [] := List.eq_nil_of_length_eq_zero he
        subst this
        go_wp2
        go_ret
        exact ⟨rfl, Below.refl _ _⟩
      · have hne : ((⟨t.toArray⟩ : ByteArray).toList == []) = false := by
          rw [ByteArray.toList_eq]
          cases t with
          | nil => simp at he
          | cons x r => rfl
        have hk2 : k + 1 = t.length ∨ k = t.length := by omega
        have hkl : t.length - 1 < (⟨t.toArray⟩ : ByteArray).size := by omega
        have HN := hide (show plainB t = (t[t.length - 1]'(by omega) == 49) from plain_last t (t.length - 1) (by omega) (fun j hj => h0 j (by omega) (by omega)))
        have hq : (((((⟨t.toArray⟩ : ByteArray)[t.length - 1]'hkl).toNat : Nat) : Int) == 49) = (t[t.length - 1]'(by omega) == 49) := u8_eq _ 49 (by omega)
        have hL : ((⟨t.toArray⟩ : ByteArray).size : Int) - 1 = ((t.length - 1 : Nat) : Int) := by omega
        clear h0 hk2
        generalize (t[t.length - 1]'(by omega) == 49) = b at *
        generalize (⟨t.toArray⟩ : ByteArray) = S at *
        have HQ := hide hq
        clear hq
        go_wp2
        go_ret
        exact ⟨by rw [unhide HN, ← unhide HQ]; rfl, Below.refl _ _⟩
set_option maxRecDepth 100000 in
set_option maxHeartbeats 1000000 in
theorem refFormat_a (n : Nat) (w : World) (h1 : 1 ≤ n) (hn : n < 9223372036854775808) :
    Calls Tryd.prog 12 #[.int .i64 (n : Int), .string ⟨#[97]⟩] w fun e w' => e = .returned (.tuple #[.string ⟨(wrF .a n).toArray⟩, .int .i64 0]) ∧ Below w.heap.size w w' := by
  have h1' : ¬ (n : Int) < 1 := by omega
  have HP := hide (show ∀ w, Calls Tryd.prog 24 #[.string ⟨#[97]⟩] w fun e w' => e = .returned (.bool false) ∧ Below w.heap.size w w' from fun w => refPlain_any [97] w (by decide))
  have HL := hide (show ∀ w, Calls Tryd.prog 18 #[.int .i64 (n : Int)] w fun e w' => e = .returned (.string ⟨(wrF .a n).toArray⟩) ∧ Below w.heap.size w w' from fun w => refLetters_any n w hn)
  generalize (⟨(wrF .a n).toArray⟩ : ByteArray) = T at *
  go_enter Tryd.func12, Tryd.ntmps12
  go_wp2_with fail
  refine (unhide HP _).mono ?_
  rintro e w1 ⟨rfl, hb1⟩
  go_wp2_with fail
  refine (unhide HL _).mono ?_
  rintro e w2 ⟨rfl, hb2⟩
  go_wp2_with fail
  go_ret2
  exact ⟨rfl, Below.then hb1 hb2⟩
set_option maxRecDepth 100000 in
set_option maxHeartbeats 1000000 in
theorem refFormat_A (n : Nat) (w : World) (h1 : 1 ≤ n) (hn : n < 9223372036854775808) :
    Calls Tryd.prog 12 #[.int .i64 (n : Int), .string ⟨#[65]⟩] w fun e w' => e = .returned (.tuple #[.string ⟨(wrF .A n).toArray⟩, .int .i64 0]) ∧ Below w.heap.size w w' := by
  have h1' : ¬ (n : Int) < 1 := by omega
  have HP := hide (show ∀ w, Calls Tryd.prog 24 #[.string ⟨#[65]⟩] w fun e w' => e = .returned (.bool false) ∧ Below w.heap.size w w' from fun w => refPlain_any [65] w (by decide))
  have HL := hide (fun w => refLetters_any n w hn)
  have HU := hide (show ∀ w, Calls Tryd.prog 25 #[.string ⟨(letP n).toArray⟩] w fun e w' => e = .returned (.string ⟨(wrF .A n).toArray⟩) ∧ Below w.heap.size w w' from fun w => refUpper_any (letP n) w (by have := letP_14 n hn; omega) (letP_mem n))
  generalize (⟨(wrF .A n).toArray⟩ : ByteArray) = T at *
  generalize (⟨(letP n).toArray⟩ : ByteArray) = L at *
  go_enter Tryd.func12, Tryd.ntmps12
  go_wp2_with fail
  refine (unhide HP _).mono ?_
  rintro e w1 ⟨rfl, hb1⟩
  go_wp2_with fail
  refine (unhide HL _).mono ?_
  rintro e w2 ⟨rfl, hb2⟩
  go_wp2_with fail
  refine (unhide HU _).mono ?_
  rintro e w3 ⟨rfl, hb3⟩
  go_wp2_with fail
  go_ret2
  exact ⟨rfl, Below.then hb1 (Below.then hb2 hb3)⟩
set_option maxRecDepth 100000 in
set_option maxHeartbeats 1000000 in
theorem refFormat_i (n : Nat) (w : World) (h1 : 1 ≤ n) (hn : n < 9223372036854775808) :
    Calls Tryd.prog 12 #[.int .i64 (n : Int), .string ⟨#[105]⟩] w fun e w' => e = .returned (.tuple #[.string ⟨(wrF .i n).toArray⟩, .int .i64 0]) ∧ Below w.heap.size w w' := by
  have h1' : ¬ (n : Int) < 1 := by omega
  have HP := hide (show ∀ w, Calls Tryd.prog 24 #[.string ⟨#[105]⟩] w fun e w' => e = .returned (.bool false) ∧ Below w.heap.size w w' from fun w => refPlain_any [105] w (by decide))
  by_cases h : 3999 < n
  · have h' : ¬ (n : Int) ≤ 3999 := by omega
    have HL := hide (show ∀ w, Calls Tryd.prog 27 #[.int .i64 (n : Int)] w fun e w' => e = .returned (.string ⟨(wrF .i n).toArray⟩) ∧ Below w.heap.size w w' from fun w => by
      have := refDigits_any n w hn
      rw [wrF_i, if_pos h]
      exact this)
    generalize (⟨(wrF .i n).toArray⟩ : ByteArray) = T at *
    go_enter Tryd.func12, Tryd.ntmps12
    go_wp2_with fail
    refine (unhide HP _).mono ?_
    rintro e w1 ⟨rfl, hb1⟩
    go_wp2_with fail
    refine (unhide HL _).mono ?_
    rintro e w2 ⟨rfl, hb2⟩
    go_wp2_with fail
    go_loop [7] (fun v => v = .string T) (fun v => vNat v)
    case atStart => rfl
    case round =>
      subst hrel
      go_wp2_with fail
      go_ret2
      exact ⟨rfl, Below.then hb1 hb2⟩
  · have h' : (n : Int) ≤ 3999 := by omega
    have HL := hide (fun w => refRoman_any n w h1 (by omega))
    have HU := hide (show ∀ w, Calls Tryd.prog 26 #[.string ⟨(romP n).toArray⟩] w fun e w' => e = .returned (.string ⟨(wrF .i n).toArray⟩) ∧ Below w.heap.size w w' from fun w => by
      have := refLower_any (romP n) w (by have := romP_len n (by omega); omega) (romP_mem n (by omega))
      rw [wrF_i, if_neg h]
      exact this)
    generalize (⟨(wrF .i n).toArray⟩ : ByteArray) = T at *
    generalize (⟨(romP n).toArray⟩ : ByteArray) = L at *
    go_enter Tryd.func12, Tryd.ntmps12
    go_wp2_with fail
    refine (unhide HP _).mono ?_
    rintro e w1 ⟨rfl, hb1⟩
    go_wp2_with fail
    refine (unhide HL _).mono ?_
    rintro e w2 ⟨rfl, hb2⟩
    go_wp2_with fail
    refine (unhide HU _).mono ?_
    rintro e w3 ⟨rfl, hb3⟩
    go_wp2_with fail
    go_ret2
    exact ⟨rfl, Below.then hb1 (Below.then hb2 hb3)⟩
set_option maxRecDepth 100000 in
set_option maxHeartbeats 1000000 in
theorem refFormat_I (n : Nat) (w : World) (h1 : 1 ≤ n) (hn : n < 9223372036854775808) :
    Calls Tryd.prog 12 #[.int .i64 (n : Int), .string ⟨#[73]⟩] w fun e w' => e = .returned (.tuple #[.string ⟨(wrF .I n).toArray⟩, .int .i64 0]) ∧ Below w.heap.size w w' := by
  have h1' : ¬ (n : Int) < 1 := by omega
  have HP := hide (show ∀ w, Calls Tryd.prog 24 #[.string ⟨#[73]⟩] w fun e w' => e = .returned (.bool false) ∧ Below w.heap.size w w' from fun w => refPlain_any [73] w (by decide))
  by_cases h : 3999 < n
  · have h' : ¬ (n : Int) ≤ 3999 := by omega
    have HL := hide (show ∀ w, Calls Tryd.prog 27 #[.int .i64 (n : Int)] w fun e w' => e = .returned (.string ⟨(wrF .I n).toArray⟩) ∧ Below w.heap.size w w' from fun w => by
      have := refDigits_any n w hn
      rw [wrF_I, if_pos h]
      exact this)
    generalize (⟨(wrF .I n).toArray⟩ : ByteArray) = T at *
    go_enter Tryd.func12, Tryd.ntmps12
    go_wp2_with fail
    refine (unhide HP _).mono ?_
    rintro e w1 ⟨rfl, hb1⟩
    go_wp2_with fail
    refine (unhide HL _).mono ?_
    rintro e w2 ⟨rfl, hb2⟩
    go_wp2_with fail
    go_loop [7] (fun v => v = .string T) (fun v => vNat v)
    case atStart => rfl
    case round =>
      subst hrel
      go_wp2_with fail
      go_ret2
      exact ⟨rfl, Below.then hb1 hb2⟩
  · have h' : (n : Int) ≤ 3999 := by omega
    have HL := hide (show ∀ w, Calls Tryd.prog 16 #[.int .i64 (n : Int)] w fun e w' => e = .returned (.string ⟨(wrF .I n).toArray⟩) ∧ Below w.heap.size w w' from fun w => by
      have := refRoman_any n w h1 (by omega)
      rw [wrF_I, if_neg h]
      exact this)
    generalize (⟨(wrF .I n).toArray⟩ : ByteArray) = T at *
    go_enter Tryd.func12, Tryd.ntmps12
    go_wp2_with fail
    refine (unhide HP _).mono ?_
    rintro e w1 ⟨rfl, hb1⟩
    go_wp2_with fail
    refine (unhide HL _).mono ?_
    rintro e w2 ⟨rfl, hb2⟩
    go_wp2_with fail
    go_ret2
    exact ⟨rfl, Below.then hb1 hb2⟩
theorem refPlain_str (g : ByteArray) (b : Bool) (hb : plainB g.data.toList = b) (hg : g.size ≤ 1000000) (w : World) : Calls Tryd.prog 24 #[.string g] w fun e w' => e = .returned (.bool b) ∧ Below w.heap.size w w' := by
  have := refPlain_any g.data.toList w hg
  rw [hb, show (⟨g.data.toList.toArray⟩ : ByteArray) = g by simp] at this
  exact this
theorem zeros_snoc (j : Nat) (l : List UInt8) : (⟨#[48]⟩ : ByteArray) ++ ⟨(Lib.repeatL [48] j ++ l).toArray⟩ = ⟨(Lib.repeatL [48] (j + 1) ++ l).toArray⟩ := by
  have := mk_append [48] (Lib.repeatL [48] j ++ l)
  rw [show (⟨#[48]⟩ : ByteArray) = ⟨[(48 : UInt8)].toArray⟩ from rfl, this]
  rfl
set_option maxRecDepth 100000 in
set_option maxHeartbeats 1000000 in
theorem refFormat_d (g : ByteArray) (n : Nat) (w : World) (h1 : 1 ≤ n) (hn : n < 9223372036854775808) (hg : g.size ≤ 1000000) (h : g ≠ ⟨#[97]⟩ ∧ g ≠ ⟨#[65]⟩ ∧ g ≠ ⟨#[105]⟩ ∧ g ≠ ⟨#[73]⟩) (ht : Lib.trimLeftB g.data.toList 48 = [49]) :
    Calls Tryd.prog 12 #[.int .i64 (n : Int), .string g] w fun e w' => e = .returned (.tuple #[.string ⟨(wrF (.d g.size) n).toArray⟩, .int .i64 0]) ∧ Below w.heap.size w w' := by
  have h1' : ¬ (n : Int) < 1 := by omega
  have HP := hide (fun w => refPlain_str g true (by unfold plainB; simp [ht]) hg w)
  have HL := hide (fun w => refDigits_any n w hn)
  have hd19 := dec_20 n hn
  rw [mk_size] at hd19
  obtain ⟨n1, n2, n3, n4⟩ := h
  have q1 := beq_ne g _ n1
  have q2 := beq_ne g _ n2
  have q3 := beq_ne g _ n3
  have q4 := beq_ne g _ n4
  have HD := hide hd19
  clear ht n1 n2 n3 n4 hd19
  go_enter Tryd.func12, Tryd.ntmps12
  go_wp2_with fail
  refine (unhide HP _).mono ?_
  rintro e w1 ⟨rfl, hb1⟩
  go_wp2_with fail
  refine (unhide HL _).mono ?_
  rintro e w2 ⟨rfl, hb2⟩
  go_wp2_with fail
  go_loop [7] (fun v => ∃ j : Nat, v = .string ⟨(Lib.repeatL [48] j ++ Lib.decDigits n).toArray⟩ ∧ (j = 0 ∨ j + (Lib.decDigits n).length ≤ g.size)) (fun v => g.size - vLen v)
  case atStart => exact ⟨0, rfl, Or.inl rfl⟩
  case round =>
    obtain ⟨j, rfl, hj⟩ := hrel
    have hsz : (⟨(Lib.repeatL [48] j ++ Lib.decDigits n).toArray⟩ : ByteArray).size = j + (Lib.decDigits n).length := by
      rw [mk_size, List.length_append, Lib.repeatL_length]
      simp
    have hd19 := unhide HD
    by_cases hlt : j + (Lib.decDigits n).length < g.size
    · have HZ := hide (zeros_snoc j (Lib.decDigits n))
      have hsz2 : (⟨(Lib.repeatL [48] (j + 1) ++ Lib.decDigits n).toArray⟩ : ByteArray).size = j + 1 + (Lib.decDigits n).length := by
        rw [mk_size, List.length_append, Lib.repeatL_length]
        simp
      have hlt' : ((⟨(Lib.repeatL [48] j ++ Lib.decDigits n).toArray⟩ : ByteArray).size : Int) < (g.size : Int) := by omega
      have HY := hide (show ∃ j', j' = j + 1 ∧ (⟨(Lib.repeatL [48] (j + 1) ++ Lib.decDigits n).toArray⟩ : ByteArray) = ⟨(Lib.repeatL [48] j' ++ Lib.decDigits n).toArray⟩ from ⟨_, rfl, rfl⟩)
      generalize (⟨(Lib.repeatL [48] (j + 1) ++ Lib.decDigits n).toArray⟩ : ByteArray) = U at *
      generalize (⟨(Lib.repeatL [48] j ++ Lib.decDigits n).toArray⟩ : ByteArray) = V at *
      go_wp2
      obtain ⟨j', hj', hU⟩ := unhide HY
      refine ⟨⟨j', by rw [← hU, ← unhide HZ], by omega⟩, ?_⟩
      show g.size - ((⟨#[48]⟩ : ByteArray) ++ V).size < g.size - V.size
      rw [unhide HZ]
      omega
    · have HF := hide (show (⟨(Lib.repeatL [48] j ++ Lib.decDigits n).toArray⟩ : ByteArray) = ⟨(wrF (.d g.size) n).toArray⟩ by
        rw [wrF_d, show g.size - (Lib.decDigits n).length = j by omega])
      have hlt' : ¬ ((⟨(Lib.repeatL [48] j ++ Lib.decDigits n).toArray⟩ : ByteArray).size : Int) < (g.size : Int) := by omega
      generalize (⟨(Lib.repeatL [48] j ++ Lib.decDigits n).toArray⟩ : ByteArray) = V at *
      go_wp2
      go_ret2
      exact ⟨by rw [← unhide HF]; rfl, Below.then hb1 hb2⟩
/-- A number from 1 on in a format, by the reference. -/
theorem refFormat_any (g : ByteArray) (f : Fm) (n : Nat) (w : World) (h1 : 1 ≤ n) (hn : n < 9223372036854775808) (hg : g.size ≤ 1000000) (hf : fmOf g.data.toList = some f) :
    Calls Tryd.prog 12 #[.int .i64 (n : Int), .string g] w fun e w' => e = .returned (.tuple #[.string ⟨(wrF f n).toArray⟩, .int .i64 0]) ∧ Below w.heap.size w w' := by
  rcases fm_cases g f hf with ⟨rfl, rfl⟩ | ⟨rfl, rfl⟩ | ⟨rfl, rfl⟩ | ⟨rfl, rfl⟩ | ⟨rfl, h, ht⟩
  · exact refFormat_a n w h1 hn
  · exact refFormat_A n w h1 hn
  · exact refFormat_i n w h1 hn
  · exact refFormat_I n w h1 hn
  · exact refFormat_d g n w h1 hn hg h ht
set_option maxRecDepth 100000 in
set_option maxHeartbeats 1000000 in
theorem refFormat_none (g : ByteArray) (x : Int) (w : World) (hg : g.size ≤ 1000000) (hf : fmOf g.data.toList = none) :
    Calls Tryd.prog 12 #[.int .i64 x, .string g] w fun e w' => e = .returned (.tuple #[.string ⟨#[]⟩, .int .i64 18]) ∧ Below w.heap.size w w' := by
  obtain ⟨⟨n1, n2, n3, n4⟩, n5⟩ := fm_none g hf
  have HP := hide (fun w => refPlain_str g false (by unfold plainB; simp [n5]) hg w)
  have q1 := beq_ne g _ n1
  have q2 := beq_ne g _ n2
  have q3 := beq_ne g _ n3
  have q4 := beq_ne g _ n4
  clear n1 n2 n3 n4 n5 hf
  go_enter Tryd.func12, Tryd.ntmps12
  go_wp2_with fail
  refine (unhide HP _).mono ?_
  rintro e w1 ⟨rfl, hb1⟩
  go_wp2_with fail
  go_ret2
  exact ⟨rfl, hb1⟩
theorem fm_known (g : ByteArray) (f : Fm) (hf : fmOf g.data.toList = some f) : g = ⟨#[97]⟩ ∨ g = ⟨#[65]⟩ ∨ g = ⟨#[105]⟩ ∨ g = ⟨#[73]⟩ ∨ (g ≠ ⟨#[97]⟩ ∧ g ≠ ⟨#[65]⟩ ∧ g ≠ ⟨#[105]⟩ ∧ g ≠ ⟨#[73]⟩) ∧ plainB g.data.toList = true := by
  rcases fm_cases g f hf with ⟨_, h⟩ | ⟨_, h⟩ | ⟨_, h⟩ | ⟨_, h⟩ | ⟨_, h, ht⟩
  · exact Or.inl h
  · exact Or.inr (Or.inl h)
  · exact Or.inr (Or.inr (Or.inl h))
  · exact Or.inr (Or.inr (Or.inr (Or.inl h)))
  · exact Or.inr (Or.inr (Or.inr (Or.inr ⟨h, by unfold plainB; simp [ht]⟩)))
set_option maxRecDepth 100000 in
set_option maxHeartbeats 1000000 in
theorem refFormat_low (g : ByteArray) (f : Fm) (x : Int) (w : World) (hx : x < 1) (hg : g.size ≤ 1000000) (hf : fmOf g.data.toList = some f) :
    Calls Tryd.prog 12 #[.int .i64 x, .string g] w fun e w' => e = .returned (.tuple #[.string ⟨#[]⟩, .int .i64 2]) ∧ Below w.heap.size w w' := by
  have HP := hide (fun w => refPlain_str g _ rfl hg w)
  rcases fm_known g f hf with rfl | rfl | rfl | rfl | ⟨⟨n1, n2, n3, n4⟩, hp⟩
  rotate_left 4
  · have q1 := beq_ne g _ n1
    have q2 := beq_ne g _ n2
    have q3 := beq_ne g _ n3
    have q4 := beq_ne g _ n4
    rw [hp] at HP
    clear n1 n2 n3 n4 hp hf
    go_enter Tryd.func12, Tryd.ntmps12
    go_wp2_with fail
    refine (unhide HP _).mono ?_
    rintro e w1 ⟨rfl, hb1⟩
    go_wp2_with fail
    go_ret2
    exact ⟨rfl, hb1⟩
  all_goals (
    clear hf
    go_enter Tryd.func12, Tryd.ntmps12
    go_wp2_with fail
    refine (unhide HP _).mono ?_
    rintro e w1 ⟨rfl, hb1⟩
    go_wp2_with fail
    go_ret2
    exact ⟨rfl, hb1⟩)
end Go.Proofs.YtmjjckindnffdaaDoor
