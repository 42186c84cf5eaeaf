/- Numbers in letters, Roman numbers and formats, over lists of bytes. -/
import Derived.Lib.Repeat
import Derived.Lib.ItoaNum
import Derived.Lib.AtoiAll
import Derived.Lib.Case
namespace Go.Proofs.YtoeahagloobmoaaGreatDoor
/-- A number in letters: none of 0; a to z, aa. -/
def letP (n : Nat) : List UInt8 := if n = 0 then [] else letP ((n - 1) / 26) ++ [UInt8.ofNat (97 + (n - 1) % 26)]
termination_by n
decreasing_by omega
theorem letP_zero : letP 0 = [] := by rw [letP]; rfl
theorem letP_succ (n : Nat) : letP (n + 1) = letP (n / 26) ++ [UInt8.ofNat (97 + n % 26)] := by
  rw [letP, if_neg (by omega)]
  rfl
theorem letP_pos (n : Nat) (h : 0 < n) : letP n = letP ((n - 1) / 26) ++ [UInt8.ofNat (97 + (n - 1) % 26)] := by
  rw [letP, if_neg (by omega)]
/-- What letters say. -/
def letV (l : List UInt8) : Nat := l.foldl (fun a b => a * 26 + (b.toNat - 96)) 0
theorem letV_snoc (l : List UInt8) (b : UInt8) : letV (l ++ [b]) = letV l * 26 + (b.toNat - 96) := by
  simp [letV]
theorem byte_small (k : Nat) (h : k < 256) : (UInt8.ofNat k).toNat = k := by
  simp [UInt8.toNat_ofNat']
  omega
theorem letV_letP (n : Nat) : letV (letP n) = n := by
  induction n using Nat.strongRecOn with
  | _ n ih =>
    by_cases h : n = 0
    · subst h
      rw [letP_zero]
      rfl
    · rw [letP_pos n (by omega), letV_snoc, ih ((n - 1) / 26) (by omega), byte_small _ (by omega)]
      omega
theorem letP_inj {a b : Nat} (h : letP a = letP b) : a = b := by
  rw [← letV_letP a, h, letV_letP]
theorem letP_mem (n : Nat) : ∀ b ∈ letP n, 97 ≤ b.toNat ∧ b.toNat ≤ 122 := by
  induction n using Nat.strongRecOn with
  | _ n ih =>
    intro b hb
    by_cases h : n = 0
    · subst h
      rw [letP_zero] at hb
      simp at hb
    · rw [letP_pos n (by omega)] at hb
      rcases List.mem_append.1 hb with h1 | h1
      · exact ih ((n - 1) / 26) (by omega) b h1
      · have : b = UInt8.ofNat (97 + (n - 1) % 26) := by simpa using h1
        rw [this, byte_small _ (by omega)]
        omega
theorem letP_len (k : Nat) : ∀ n, n < 26 ^ k → (letP n).length ≤ k := by
  induction k with
  | zero =>
    intro n hn
    have : n = 0 := by simpa using hn
    subst this
    rw [letP_zero]
    simp
  | succ k ih =>
    intro n hn
    by_cases h : n = 0
    · subst h
      rw [letP_zero]
      simp
    · rw [letP_pos n (by omega)]
      have := ih ((n - 1) / 26) (by rw [Nat.pow_succ] at hn; omega)
      simp
      omega
theorem letP_ne (n : Nat) (h : 0 < n) : letP n ≠ [] := by
  rw [letP_pos n h]
  simp
/-- Roman signs, and what they come to. -/
def romS : List (List Nat × Nat) := [([77], 1000), ([67, 77], 900), ([68], 500), ([67, 68], 400), ([67], 100), ([88, 67], 90), ([76], 50), ([88, 76], 40), ([88], 10), ([73, 88], 9), ([86], 5), ([73, 86], 4), ([73], 1)]
def repN (l : List Nat) : Nat → List Nat
  | 0 => []
  | c + 1 => l ++ repN l c
def romGo : List (List Nat × Nat) → Nat → List Nat
  | [], _ => []
  | (s, k) :: r, n => repN s (n / k) ++ romGo r (n % k)
def romN (n : Nat) : List Nat := romGo romS n
def bytesN (l : List Nat) : List UInt8 := l.map UInt8.ofNat
/-- A Roman number, in capitals. -/
def romP (n : Nat) : List UInt8 := bytesN (romN n)
theorem bytesN_append (a b : List Nat) : bytesN (a ++ b) = bytesN a ++ bytesN b := by simp [bytesN]
theorem bytesN_rep (l : List Nat) : ∀ c, bytesN (repN l c) = Lib.repeatL (bytesN l) c
  | 0 => rfl
  | c + 1 => by rw [repN, bytesN_append, bytesN_rep l c, Lib.repeatL]
/-- What Roman signs say: each sign as often as it stands ahead, the greatest ones first; what is left. -/
def stripN (s : List Nat) (k : Nat) : Nat → Nat → List Nat → Nat × List Nat
  | 0, n, l => (n, l)
  | f + 1, n, l => if s.isPrefixOf l then stripN s k f (n + k) (l.drop s.length) else (n, l)
def romVGo : List (List Nat × Nat) → Nat → List Nat → Nat × List Nat
  | [], n, l => (n, l)
  | (s, k) :: r, n, l => romVGo r (stripN s k l.length n l).1 (stripN s k l.length n l).2
def romVN (l : List Nat) : Nat := if (romVGo romS 0 l).2 = [] then (romVGo romS 0 l).1 else 0
def romOk (n : Nat) : Bool := romVN (romN n) == n && decide ((romN n).length ≤ 15) && (romN n).all (fun b => decide (65 ≤ b) && decide (b ≤ 90)) && (n == 0 || !(romN n).isEmpty)
theorem rom_all : (List.range 4000).all romOk = true := by decide +kernel
theorem rom_ok (n : Nat) (h : n ≤ 3999) : romVN (romN n) = n ∧ (romN n).length ≤ 15 ∧ (∀ b ∈ romN n, 65 ≤ b ∧ b ≤ 90) ∧ (0 < n → romN n ≠ []) := by
  have := List.all_eq_true.1 rom_all n (List.mem_range.2 (by omega))
  unfold romOk at this
  simp only [Bool.and_eq_true, beq_iff_eq, decide_eq_true_eq, List.all_eq_true, Bool.or_eq_true, Bool.not_eq_true'] at this
  obtain ⟨⟨⟨h1, h2⟩, h3⟩, h4⟩ := this
  refine ⟨h1, h2, h3, fun h0 => ?_⟩
  rcases h4 with h4 | h4
  · omega
  · intro hn
    rw [hn] at h4
    simp at h4
theorem bytesN_inj : ∀ (a b : List Nat), (∀ x ∈ a, x < 256) → (∀ x ∈ b, x < 256) → bytesN a = bytesN b → a = b
  | [], [], _, _, _ => rfl
  | [], _ :: _, _, _, h => by simp [bytesN] at h
  | _ :: _, [], _, _, h => by simp [bytesN] at h
  | x :: a, y :: b, ha, hb, h => by
    simp only [bytesN, List.map_cons, List.cons.injEq] at h
    obtain ⟨h1, h2⟩ := h
    have e := congrArg UInt8.toNat h1
    rw [byte_small _ (ha x (by simp)), byte_small _ (hb y (by simp))] at e
    rw [e, bytesN_inj a b (fun x hx => ha x (by simp [hx])) (fun x hx => hb x (by simp [hx])) h2]
theorem romP_inj {a b : Nat} (ha : a ≤ 3999) (hb : b ≤ 3999) (h : romP a = romP b) : a = b := by
  have h1 := rom_ok a ha
  have h2 := rom_ok b hb
  have := bytesN_inj _ _ (fun x hx => by have := h1.2.2.1 x hx; omega) (fun x hx => by have := h2.2.2.1 x hx; omega) h
  rw [← h1.1, this, h2.1]
theorem romP_mem (n : Nat) (h : n ≤ 3999) : ∀ b ∈ romP n, 65 ≤ b.toNat ∧ b.toNat ≤ 90 := by
  intro b hb
  obtain ⟨x, hx, rfl⟩ := List.mem_map.1 hb
  have := (rom_ok n h).2.2.1 x hx
  rw [byte_small _ (by omega)]
  exact this
theorem romP_len (n : Nat) (h : n ≤ 3999) : (romP n).length ≤ 15 := by
  have := (rom_ok n h).2.1
  unfold romP bytesN
  simpa using this
end Go.Proofs.YtoeahagloobmoaaGreatDoor
