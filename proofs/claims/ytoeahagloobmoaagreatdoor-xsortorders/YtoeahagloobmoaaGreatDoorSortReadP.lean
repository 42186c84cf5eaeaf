/- What a text says in a format, over lists of bytes: one of three numbers that it may be written of. -/
import Derived.Test.YtoeahagloobmoaaGreatDoorSortFmt
namespace Go.Proofs.YtoeahagloobmoaaGreatDoor
/-- What digits, letters, Roman signs may say; 0: nothing. -/
def digI (s : List UInt8) : Int := match Lib.atoiAll s with
  | .ok v => v
  | .«syntax» => 0
  | .range => 0
def letT (t : List UInt8) : Nat := if t.all (fun b => decide (97 ≤ b.toNat) && decide (b.toNat ≤ 122)) then letV t else 0
def numsOf (l : List UInt8) : List Nat := l.map UInt8.toNat
def romT (t : List UInt8) : Nat := romVN (numsOf t)
theorem numsOf_bytesN : ∀ (l : List Nat), (∀ x ∈ l, x < 256) → numsOf (bytesN l) = l
  | [], _ => rfl
  | x :: r, h => by
    have := numsOf_bytesN r (fun y hy => h y (by simp [hy]))
    simp only [numsOf, bytesN, List.map_cons] at this ⊢
    rw [this, byte_small x (h x (by simp))]
theorem romT_romP (n : Nat) (h : n ≤ 3999) : romT (romP n) = n := by
  have := rom_ok n h
  unfold romT romP
  rw [numsOf_bytesN _ (fun x hx => by have := this.2.2.1 x hx; omega)]
  exact this.1
theorem letT_letP (n : Nat) : letT (letP n) = n := by
  unfold letT
  rw [if_pos ?_, letV_letP]
  rw [List.all_eq_true]
  intro b hb
  have := letP_mem n b hb
  simp [this.1, this.2]
/-- Does a number say the text, in this format? -/
def saysB (f : Fm) (s : List UInt8) (n : Int) : Bool := decide (1 ≤ n) && decide (n ≤ 1000000000) && decide (wrF f n.toNat = s)
theorem saysB_iff (f : Fm) (s : List UInt8) (n : Int) : saysB f s n = true ↔ 1 ≤ n ∧ n ≤ 1000000000 ∧ wrF f n.toNat = s := by
  simp [saysB, and_assoc]
/-- What a text says in a format, of three numbers that it may say. -/
def readP (f : Fm) (s : List UInt8) (x y z : Int) : Option Int := [x, y, z].find? (saysB f s)
/-- One of the three is the number that a text was written of. -/
theorem cand_of (f : Fm) (n : Nat) (h1 : 1 ≤ n) (h2 : n ≤ 1000000000) :
    digI (wrF f n) = n ∨ (wrF f n).length ≤ 7 ∧ letT (Lib.toLowerA (wrF f n)) = n ∨ (wrF f n).length ≤ 15 ∧ romT (Lib.toUpperA (wrF f n)) = n := by
  have hd : ∀ k, digI (Lib.repeatL [48] k ++ Lib.decDigits n) = n := fun k => by
    unfold digI
    rw [atoi_digits k n (by omega)]
  have hd0 : digI (Lib.decDigits n) = n := hd 0
  have hl := letP_len 7 n (by have : 26 ^ 7 = 8031810176 := by decide
                              omega)
  cases f with
  | a =>
    refine Or.inr (Or.inl ⟨hl, ?_⟩)
    show letT (Lib.toLowerA (letP n)) = n
    have : Lib.toLowerA (letP n) = letP n := map_same _ _ fun b hb => by
      have hm := letP_mem n b hb
      have hall : ∀ x : Fin 256, 97 ≤ x.val → x.val ≤ 122 → Lib.lowerB (UInt8.ofNat x.val) = UInt8.ofNat x.val := by decide +kernel
      have := hall ⟨b.toNat, b.toNat_lt⟩ hm.1 hm.2
      simpa using this
    rw [this, letT_letP]
  | A =>
    refine Or.inr (Or.inl ⟨by show (Lib.toUpperA (letP n)).length ≤ 7; unfold Lib.toUpperA; simpa using hl, ?_⟩)
    show letT (Lib.toLowerA (Lib.toUpperA (letP n))) = n
    rw [lowerA_upperA_let, letT_letP]
  | i =>
    rw [wrF_i]
    by_cases h : 3999 < n
    · rw [if_pos h]
      exact Or.inl hd0
    · rw [if_neg h]
      refine Or.inr (Or.inr ⟨?_, ?_⟩)
      · unfold Lib.toLowerA
        have := romP_len n (by omega)
        simpa using this
      · rw [upperA_lowerA_rom n (by omega), romT_romP n (by omega)]
  | I =>
    rw [wrF_I]
    by_cases h : 3999 < n
    · rw [if_pos h]
      exact Or.inl hd0
    · rw [if_neg h]
      exact Or.inr (Or.inr ⟨romP_len n (by omega), by rw [upperA_rom n (by omega), romT_romP n (by omega)]⟩)
  | d k => exact Or.inl (hd _)
theorem wr_ascii (f : Fm) (n : Nat) : ∀ b ∈ wrF f n, b.toNat < 128 := by
  intro b hb
  cases f with
  | a => have := letP_mem n b hb; omega
  | A =>
    obtain ⟨x, hx, rfl⟩ := List.mem_map.1 hb
    have hm := letP_mem n x hx
    have := (lower_upper x hm.1 hm.2).2
    omega
  | i =>
    rw [wrF_i] at hb
    split at hb
    · have := dec_mem n b hb; omega
    · obtain ⟨x, hx, rfl⟩ := List.mem_map.1 hb
      have hm := romP_mem n (by omega) x hx
      have := (upper_lower x hm.1 hm.2).2
      omega
  | I =>
    rw [wrF_I] at hb
    split at hb
    · have := dec_mem n b hb; omega
    · have := romP_mem n (by omega) b hb; omega
  | d k =>
    rcases List.mem_append.1 hb with h | h
    · rw [rep_mem _ b h]; decide
    · have := dec_mem n b h; omega
/-- Of three numbers one of which was written, that one is read. -/
theorem readP_some (f : Fm) (n : Nat) (h1 : 1 ≤ n) (h2 : n ≤ 1000000000) (x y z : Int) (h : x = n ∨ y = n ∨ z = n) : readP f (wrF f n) x y z = some (n : Int) := by
  have hs : ∀ m : Int, saysB f (wrF f n) m = true → m = n := fun m hm => by
    obtain ⟨a, b, c⟩ := (saysB_iff _ _ _).1 hm
    have := wrF_inj f c
    omega
  have hn : saysB f (wrF f n) (n : Int) = true := (saysB_iff _ _ _).2 ⟨by omega, by omega, by rw [Int.toNat_natCast]⟩
  unfold readP
  cases hx : saysB f (wrF f n) x with
  | true => rw [List.find?_cons_of_pos hx, hs x hx]
  | false =>
    rw [List.find?_cons_of_neg (by simp [hx])]
    cases hy : saysB f (wrF f n) y with
    | true => rw [List.find?_cons_of_pos hy, hs y hy]
    | false =>
      rw [List.find?_cons_of_neg (by simp [hy])]
      rcases h with h | h | h
      · rw [h, hn] at hx; cases hx
      · rw [h, hn] at hy; cases hy
      · rw [h, List.find?_cons_of_pos hn]
/-- What is read was written. -/
theorem readP_says (f : Fm) (s : List UInt8) (x y z m : Int) (h : readP f s x y z = some m) : 1 ≤ m ∧ m ≤ 1000000000 ∧ wrF f m.toNat = s :=
  (saysB_iff _ _ _).1 (List.find?_some h)
end Go.Proofs.YtoeahagloobmoaaGreatDoor
