/- Formats: what each writes of a number, and what a text in it says, over lists of bytes. -/
import Derived.Test.YtoeahagloobmoaaGreatDoorSortPlain
import Derived.Lib.TrimByte
namespace Go.Proofs.YtoeahagloobmoaaGreatDoor
/-- The formats: letters, small and in capitals; Roman numbers, small and in capitals; digits, at least so many. -/
inductive Fm where
  | a | A | i | I
  | d (least : Nat)
/-- A number in a format. -/
def wrF : Fm → Nat → List UInt8
  | .a, n => letP n
  | .A, n => Lib.toUpperA (letP n)
  | .i, n => Lib.toLowerA (if 3999 < n then Lib.decDigits n else romP n)
  | .I, n => if 3999 < n then Lib.decDigits n else romP n
  | .d k, n => Lib.repeatL [48] (k - (Lib.decDigits n).length) ++ Lib.decDigits n
/-- What format a text is. -/
def fmOf (s : List UInt8) : Option Fm :=
  if s = [97] then some .a else if s = [65] then some .A else if s = [105] then some .i else if s = [73] then some .I
  else if Lib.trimLeftB s 48 = [49] then some (.d s.length) else none
theorem dec_mem (n : Nat) : ∀ b ∈ Lib.decDigits n, 48 ≤ b.toNat ∧ b.toNat ≤ 57 := by
  induction n using Nat.strongRecOn with
  | _ n ih =>
    intro b hb
    rw [Lib.decDigits] at hb
    split at hb
    · have : b = UInt8.ofNat (48 + n) := by simpa using hb
      rw [this, byte_small _ (by omega)]
      omega
    · rcases List.mem_append.1 hb with h1 | h1
      · exact ih (n / 10) (by omega) b h1
      · have : b = UInt8.ofNat (48 + n % 10) := by simpa using h1
        rw [this, byte_small _ (by omega)]
        omega
theorem dec_ne (n : Nat) : Lib.decDigits n ≠ [] := by
  rw [Lib.decDigits]
  split <;> simp
/-- What digits say. -/
def digV (l : List UInt8) : Nat := l.foldl (fun a b => a * 10 + (b.toNat - 48)) 0
theorem digV_snoc (l : List UInt8) (b : UInt8) : digV (l ++ [b]) = digV l * 10 + (b.toNat - 48) := by
  simp [digV]
theorem digV_dec (n : Nat) : digV (Lib.decDigits n) = n := by
  induction n using Nat.strongRecOn with
  | _ n ih =>
    rw [Lib.decDigits]
    split
    · show 0 * 10 + ((UInt8.ofNat (48 + n)).toNat - 48) = n
      rw [byte_small _ (by omega)]
      omega
    · rw [digV_snoc, ih (n / 10) (by omega), byte_small _ (by omega)]
      omega
theorem digV_zeros (k : Nat) (l : List UInt8) : digV (Lib.repeatL [48] k ++ l) = digV l := by
  induction k with
  | zero => rfl
  | succ k ih =>
    rw [Lib.repeatL]
    show (Lib.repeatL [48] k ++ l).foldl (fun a b => a * 10 + (b.toNat - 48)) (0 * 10 + ((48 : UInt8).toNat - 48)) = _
    exact ih
theorem lower_upper (b : UInt8) (h1 : 97 ≤ b.toNat) (h2 : b.toNat ≤ 122) : Lib.lowerB (Lib.upperB b) = b ∧ (Lib.upperB b).toNat = b.toNat - 32 := by
  have hall : ∀ x : Fin 256, 97 ≤ x.val → x.val ≤ 122 → Lib.lowerB (Lib.upperB (UInt8.ofNat x.val)) = UInt8.ofNat x.val ∧ (Lib.upperB (UInt8.ofNat x.val)).toNat = x.val - 32 := by decide +kernel
  have := hall ⟨b.toNat, b.toNat_lt⟩ h1 h2
  simpa using this
theorem upper_lower (b : UInt8) (h1 : 65 ≤ b.toNat) (h2 : b.toNat ≤ 90) : Lib.upperB (Lib.lowerB b) = b ∧ (Lib.lowerB b).toNat = b.toNat + 32 := by
  have hall : ∀ x : Fin 256, 65 ≤ x.val → x.val ≤ 90 → Lib.upperB (Lib.lowerB (UInt8.ofNat x.val)) = UInt8.ofNat x.val ∧ (Lib.lowerB (UInt8.ofNat x.val)).toNat = x.val + 32 := by decide +kernel
  have := hall ⟨b.toNat, b.toNat_lt⟩ h1 h2
  simpa using this
theorem lower_same (b : UInt8) (h1 : b.toNat < 65) : Lib.lowerB b = b ∧ Lib.upperB b = b := by
  have hall : ∀ x : Fin 256, x.val < 65 → Lib.lowerB (UInt8.ofNat x.val) = UInt8.ofNat x.val ∧ Lib.upperB (UInt8.ofNat x.val) = UInt8.ofNat x.val := by decide +kernel
  have := hall ⟨b.toNat, b.toNat_lt⟩ h1
  simpa using this
theorem map_same (f : UInt8 → UInt8) (l : List UInt8) (h : ∀ b ∈ l, f b = b) : l.map f = l := by
  induction l with
  | nil => rfl
  | cons x r ih => rw [List.map_cons, h x (by simp), ih (fun b hb => h b (by simp [hb]))]
theorem lowerA_upperA_let (n : Nat) : Lib.toLowerA (Lib.toUpperA (letP n)) = letP n := by
  unfold Lib.toLowerA Lib.toUpperA
  rw [List.map_map]
  exact map_same _ _ fun b hb => (lower_upper b (letP_mem n b hb).1 (letP_mem n b hb).2).1
theorem upperA_lowerA_rom (n : Nat) (h : n ≤ 3999) : Lib.toUpperA (Lib.toLowerA (romP n)) = romP n := by
  unfold Lib.toLowerA Lib.toUpperA
  rw [List.map_map]
  exact map_same _ _ fun b hb => (upper_lower b (romP_mem n h b hb).1 (romP_mem n h b hb).2).1
theorem upperA_rom (n : Nat) (h : n ≤ 3999) : Lib.toUpperA (romP n) = romP n := by
  conv => rhs; rw [← upperA_lowerA_rom n h]
  conv => lhs; rw [← upperA_lowerA_rom n h]
  unfold Lib.toLowerA Lib.toUpperA
  rw [List.map_map]
  refine List.map_congr_left fun b hb => ?_
  have hu : ∀ x : Fin 256, Lib.upperB (Lib.upperB (UInt8.ofNat x.val)) = Lib.upperB (UInt8.ofNat x.val) := by decide +kernel
  have := hu ⟨b.toNat, b.toNat_lt⟩
  simpa using this
theorem lowerA_dec (n : Nat) : Lib.toLowerA (Lib.decDigits n) = Lib.decDigits n :=
  map_same _ _ fun b hb => (lower_same b (by have := dec_mem n b hb; omega)).1
theorem wrF_i (n : Nat) : wrF .i n = if 3999 < n then Lib.decDigits n else Lib.toLowerA (romP n) := by
  show Lib.toLowerA (if 3999 < n then Lib.decDigits n else romP n) = _
  split
  · exact lowerA_dec n
  · rfl
theorem wrF_I (n : Nat) : wrF .I n = if 3999 < n then Lib.decDigits n else romP n := rfl
theorem wrF_d (k n : Nat) : wrF (.d k) n = Lib.repeatL [48] (k - (Lib.decDigits n).length) ++ Lib.decDigits n := rfl
theorem dec_inj {a b : Nat} (h : Lib.decDigits a = Lib.decDigits b) : a = b := by
  rw [← digV_dec a, h, digV_dec]
theorem rom_dec (n m : Nat) (h : n ≤ 3999) (e : romP n = Lib.decDigits m) : False := by
  cases hd : Lib.decDigits m with
  | nil => exact dec_ne m hd
  | cons x r =>
    have h1 := dec_mem m x (by rw [hd]; simp)
    have h2 := romP_mem n h x (by rw [e, hd]; simp)
    omega
theorem low_dec (n m : Nat) (h : n ≤ 3999) (e : Lib.toLowerA (romP n) = Lib.decDigits m) : False := by
  refine rom_dec n m h ?_
  rw [← upperA_lowerA_rom n h, e]
  exact map_same _ _ fun b hb => (lower_same b (by have := dec_mem m b hb; omega)).2
/-- What is written of a number is written of no other one. -/
theorem wrF_inj (f : Fm) {a b : Nat} (h : wrF f a = wrF f b) : a = b := by
  cases f with
  | a => exact letP_inj h
  | A =>
    refine letP_inj ?_
    rw [← lowerA_upperA_let a, ← lowerA_upperA_let b]
    exact congrArg Lib.toLowerA h
  | i =>
    rw [wrF_i, wrF_i] at h
    by_cases ha : 3999 < a <;> by_cases hb : 3999 < b
    · rw [if_pos ha, if_pos hb] at h
      exact dec_inj h
    · rw [if_pos ha, if_neg hb] at h
      exact (low_dec b a (by omega) h.symm).elim
    · rw [if_neg ha, if_pos hb] at h
      exact (low_dec a b (by omega) h).elim
    · rw [if_neg ha, if_neg hb] at h
      refine romP_inj (by omega) (by omega) ?_
      rw [← upperA_lowerA_rom a (by omega), h, upperA_lowerA_rom b (by omega)]
  | I =>
    rw [wrF_I, wrF_I] at h
    by_cases ha : 3999 < a <;> by_cases hb : 3999 < b
    · rw [if_pos ha, if_pos hb] at h
      exact dec_inj h
    · rw [if_pos ha, if_neg hb] at h
      exact (rom_dec b a (by omega) h.symm).elim
    · rw [if_neg ha, if_pos hb] at h
      exact (rom_dec a b (by omega) h).elim
    · rw [if_neg ha, if_neg hb] at h
      exact romP_inj (by omega) (by omega) h
  | d k =>
    have := congrArg digV h
    rw [wrF_d, wrF_d, digV_zeros, digV_zeros, digV_dec, digV_dec] at this
    exact this
theorem decLen (k : Nat) : ∀ n, n < 10 ^ (k + 1) → (Lib.decDigits n).length ≤ k + 1 := by
  induction k with
  | zero =>
    intro n hn
    rw [Lib.decDigits, dif_pos (by simpa using hn)]
    simp
  | succ k ih =>
    intro n hn
    rw [Lib.decDigits]
    split
    · simp
    · have := ih (n / 10) (by rw [Nat.pow_succ] at hn; omega)
      simp
      omega
theorem uint_dec (l : List UInt8) : ∀ (acc : Nat), (∀ b ∈ l, 48 ≤ b.toNat ∧ b.toNat ≤ 57) → l.foldl (fun a b => a * 10 + (b.toNat - 48)) acc < 18446744073709551616 → Lib.parseUint10 acc l = .ok (l.foldl (fun a b => a * 10 + (b.toNat - 48)) acc) := by
  induction l with
  | nil => intro acc _ _; rfl
  | cons x r ih =>
    intro acc hm hlt
    have hx := hm x (by simp)
    have hmono : ∀ (l : List UInt8) (a : Nat), a ≤ l.foldl (fun a b => a * 10 + (b.toNat - 48)) a := by
      intro l
      induction l with
      | nil => intro a; exact Nat.le_refl _
      | cons y t ih2 =>
        intro a
        have := ih2 (a * 10 + (y.toNat - 48))
        simp only [List.foldl_cons]
        omega
    have h1 := hmono r (acc * 10 + (x.toNat - 48))
    simp only [List.foldl_cons] at hlt ⊢
    rw [Lib.parseUint10, if_pos hx, if_neg (by omega), if_neg (by omega)]
    exact ih _ (fun b hb => hm b (by simp [hb])) hlt
theorem rep_mem (k : Nat) : ∀ b ∈ Lib.repeatL [48] k, b = 48 := by
  induction k with
  | zero => intro b hb; simp [Lib.repeatL] at hb
  | succ k ih =>
    intro b hb
    rw [Lib.repeatL] at hb
    rcases List.mem_append.1 hb with h | h
    · simpa using h
    · exact ih b h
/-- Digits with noughts ahead, as the library reads them. -/
theorem atoi_digits (k n : Nat) (h : n < 9223372036854775808) : Lib.atoiAll (Lib.repeatL [48] k ++ Lib.decDigits n) = .ok (n : Int) := by
  have hm : ∀ b ∈ Lib.repeatL [48] k ++ Lib.decDigits n, 48 ≤ b.toNat ∧ b.toNat ≤ 57 := by
    intro b hb
    rcases List.mem_append.1 hb with h | h
    · rw [rep_mem k b h]
      decide
    · exact dec_mem n b h
  have hv : (Lib.repeatL [48] k ++ Lib.decDigits n).foldl (fun a b => a * 10 + (b.toNat - 48)) 0 = n := by
    show digV (Lib.repeatL [48] k ++ Lib.decDigits n) = n
    rw [digV_zeros, digV_dec]
  have hne : Lib.repeatL [48] k ++ Lib.decDigits n ≠ [] := by
    simp [dec_ne]
  generalize Lib.repeatL [48] k ++ Lib.decDigits n = l at *
  have hu := uint_dec l 0 hm (by rw [hv]; omega)
  rw [hv] at hu
  cases l with
  | nil => exact absurd rfl hne
  | cons c r =>
    have hc := hm c (by simp)
    unfold Lib.atoiAll
    simp only
    rw [if_neg (by omega)]
    unfold Lib.parseMag
    rw [if_neg hne, hu]
    simp only
    rw [if_neg (by omega), if_neg (by omega), if_neg (by omega)]
end Go.Proofs.YtoeahagloobmoaaGreatDoor
