/- What Read must answer, over lists of bytes. -/
import Derived.Test.YtmjjckindnffdaaDoorSortReadP
namespace Go.Proofs.YtmjjckindnffdaaDoor
/-- An answer is the one number from 1 to 1000000000 of which the text is written, or none. -/
def AnsR (f : Fm) (t : List UInt8) (r : Option Int) : Prop := ∀ m : Int, r = some m ↔ (1 ≤ m ∧ m ≤ 1000000000 ∧ wrF f m.toNat = t)
theorem AnsR.same {f : Fm} {t : List UInt8} {r q : Option Int} (h : AnsR f t r) (k : AnsR f t q) : r = q := by
  cases r with
  | some m => exact ((k m).2 ((h m).1 rfl)).symm
  | none =>
    cases q with
    | none => rfl
    | some m => exact absurd ((h m).2 ((k m).1 rfl)) (by simp)
/-- Of one number alone the text may be written. -/
def OnlyR (f : Fm) (t : List UInt8) (x : Nat) : Prop := ∀ m : Nat, 1 ≤ m → m ≤ 1000000000 → wrF f m = t → x = m
theorem ans_out {f : Fm} {t : List UInt8} {x : Nat} (h : OnlyR f t x) (hx : x < 1 ∨ 1000000000 < x) : AnsR f t none := by
  intro m
  constructor
  · intro e; cases e
  · rintro ⟨h1, h2, h3⟩
    have := h m.toNat (by omega) (by omega) h3
    omega
theorem ans_no {f : Fm} {t : List UInt8} {x : Nat} (h : OnlyR f t x) (hx : wrF f x ≠ t) : AnsR f t none := by
  intro m
  constructor
  · intro e; cases e
  · rintro ⟨h1, h2, h3⟩
    have := h m.toNat (by omega) (by omega) h3
    rw [this] at hx
    exact absurd h3 hx
theorem ans_yes {f : Fm} {t : List UInt8} {x : Nat} (h1 : 1 ≤ x) (h2 : x ≤ 1000000000) (hx : wrF f x = t) : AnsR f t (some (x : Int)) := by
  intro m
  constructor
  · intro e
    obtain rfl := Option.some.inj e
    exact ⟨by omega, by omega, by rw [Int.toNat_natCast]; exact hx⟩
  · rintro ⟨h3, h4, h5⟩
    have := wrF_inj f (hx.trans h5.symm)
    rw [this]
    congr 1
    omega
theorem ans_never {f : Fm} {t : List UInt8} (h : ∀ m : Nat, 1 ≤ m → m ≤ 1000000000 → wrF f m ≠ t) : AnsR f t none := by
  intro m
  constructor
  · intro e; cases e
  · rintro ⟨h1, h2, h3⟩
    exact absurd h3 (h m.toNat (by omega) (by omega))
/-- What signs of a base say, from a sign on. -/
def valV (B c : Nat) (l : List UInt8) : Nat := l.foldl (fun a b => a * B + (b.toNat - c)) 0
theorem valV_snoc (B c : Nat) (l : List UInt8) (b : UInt8) : valV B c (l ++ [b]) = valV B c l * B + (b.toNat - c) := by
  simp [valV]
theorem valV_next (B c : Nat) (t : List UInt8) (k : Nat) (h : k < t.length) : valV B c (t.take (k + 1)) = valV B c (t.take k) * B + (t[k].toNat - c) := by
  rw [List.take_add_one, List.getElem?_eq_getElem h, Option.toList_some, valV_snoc]
theorem fold_mono (B c : Nat) (hB : 1 ≤ B) (l : List UInt8) : ∀ a, a ≤ l.foldl (fun a b => a * B + (b.toNat - c)) a := by
  induction l with
  | nil => intro a; exact Nat.le_refl _
  | cons x r ih =>
    intro a
    have h1 := ih (a * B + (x.toNat - c))
    have h2 : a * 1 ≤ a * B := Nat.mul_le_mul_left a hB
    simp only [List.foldl_cons]
    omega
theorem valV_take (B c : Nat) (hB : 1 ≤ B) (t : List UInt8) (k : Nat) : valV B c (t.take k) ≤ valV B c t := by
  have e : valV B c t = (t.drop k).foldl (fun a b => a * B + (b.toNat - c)) (valV B c (t.take k)) := by
    unfold valV
    rw [← List.foldl_append, List.take_append_drop]
  rw [e]
  exact fold_mono B c hB _ _
/-- Where texts of a format are such signs alone. -/
def SignsR (f : Fm) (B c lo hi : Nat) (t : List UInt8) : Prop := ∀ m : Nat, 1 ≤ m → m ≤ 1000000000 → wrF f m = t → valV B c t = m ∧ ∀ b ∈ t, lo ≤ b.toNat ∧ b.toNat ≤ hi
theorem SignsR.end {f : Fm} {B c lo hi : Nat} {t : List UInt8} (h : SignsR f B c lo hi t) (hB : 1 ≤ B) (k : Nat) (hk : t.length ≤ k ∨ 1000000000 < valV B c (t.take k)) : OnlyR f t (valV B c (t.take k)) := by
  intro m h1 h2 h3
  have e := (h m h1 h2 h3).1
  rcases hk with hk | hk
  · rw [List.take_of_length_le hk]
    exact e
  · have := valV_take B c hB t k
    omega
theorem SignsR.stop {f : Fm} {B c lo hi : Nat} {t : List UInt8} (h : SignsR f B c lo hi t) (k : Nat) (hk : k < t.length) (hb : ¬ (lo ≤ t[k].toNat ∧ t[k].toNat ≤ hi)) : AnsR f t none :=
  ans_never fun m h1 h2 h3 => hb ((h m h1 h2 h3).2 t[k] (List.getElem_mem hk))
theorem signs_a (t : List UInt8) : SignsR .a 26 96 97 122 t := by
  intro m _ _ h3
  subst h3
  exact ⟨letV_letP m, letP_mem m⟩
theorem valV_upper (l : List UInt8) (h : ∀ b ∈ l, 97 ≤ b.toNat ∧ b.toNat ≤ 122) : valV 26 64 (l.map Lib.upperB) = letV l := by
  unfold valV letV
  rw [List.foldl_map]
  generalize (0 : Nat) = a
  induction l generalizing a with
  | nil => rfl
  | cons x r ih =>
    have hx := h x (by simp)
    simp only [List.foldl_cons]
    rw [(lower_upper x hx.1 hx.2).2, show x.toNat - 32 - 64 = x.toNat - 96 by omega]
    exact ih (fun b hb => h b (by simp [hb])) _
theorem signs_A (t : List UInt8) : SignsR .A 26 64 65 90 t := by
  intro m _ _ h3
  subst h3
  refine ⟨(valV_upper (letP m) (letP_mem m)).trans (letV_letP m), ?_⟩
  intro b hb
  obtain ⟨x, hx, rfl⟩ := List.mem_map.1 hb
  have hm := letP_mem m x hx
  have := (lower_upper x hm.1 hm.2).2
  omega
theorem signs_d (k : Nat) (t : List UInt8) : SignsR (.d k) 10 48 48 57 t := by
  intro m _ _ h3
  subst h3
  refine ⟨?_, ?_⟩
  · show digV _ = m
    rw [wrF_d, digV_zeros, digV_dec]
  · intro b hb
    rcases List.mem_append.1 hb with h | h
    · rw [rep_mem _ b h]
      decide
    · exact dec_mem m b h
/-- A text that does not begin with a letter. -/
def NoRom (t : List UInt8) : Prop := ∀ x r, t = x :: r → 48 ≤ x.toNat ∧ x.toNat ≤ 57
theorem signs_I (t : List UInt8) (ht : NoRom t) : SignsR .I 10 48 48 57 t := by
  intro m h1 _ h3
  rw [wrF_I] at h3
  by_cases h : 3999 < m
  · rw [if_pos h] at h3
    subst h3
    exact ⟨digV_dec m, dec_mem m⟩
  · rw [if_neg h] at h3
    exfalso
    cases hr : romP m with
    | nil =>
      have := (rom_ok m (by omega)).2.2.2 (by omega)
      unfold romP bytesN at hr
      simp at hr
      exact this hr
    | cons x r =>
      have h5 := romP_mem m (by omega) x (by rw [hr]; simp)
      have := ht x r (h3.symm.trans hr)
      omega
theorem signs_i (t : List UInt8) (ht : NoRom t) : SignsR .i 10 48 48 57 t := by
  intro m h1 _ h3
  rw [wrF_i] at h3
  by_cases h : 3999 < m
  · rw [if_pos h] at h3
    subst h3
    exact ⟨digV_dec m, dec_mem m⟩
  · rw [if_neg h] at h3
    exfalso
    cases hr : romP m with
    | nil =>
      have := (rom_ok m (by omega)).2.2.2 (by omega)
      unfold romP bytesN at hr
      simp at hr
      exact this hr
    | cons x r =>
      have h5 := romP_mem m (by omega) x (by rw [hr]; simp)
      have h6 := (upper_lower x h5.1 h5.2).2
      have := ht (Lib.lowerB x) (r.map Lib.lowerB) (by rw [← h3, hr]; rfl)
      omega
/-- A text that begins with a letter is no digits. -/
theorem rom_only (f : Fm) (hf : f = .i ∨ f = .I) (t : List UInt8) (x : UInt8) (r : List UInt8) (ht : t = x :: r) (hx : ¬ (48 ≤ x.toNat ∧ x.toNat ≤ 57)) (m : Nat) (h3 : wrF f m = t) : m ≤ 3999 := by
  by_cases h : 3999 < m
  · exfalso
    have e : wrF f m = Lib.decDigits m := by
      rcases hf with rfl | rfl
      · rw [wrF_i, if_pos h]
      · rw [wrF_I, if_pos h]
    have : x ∈ Lib.decDigits m := by rw [← e, h3, ht]; simp
    exact hx (dec_mem m x this)
  · omega
end Go.Proofs.YtmjjckindnffdaaDoor
