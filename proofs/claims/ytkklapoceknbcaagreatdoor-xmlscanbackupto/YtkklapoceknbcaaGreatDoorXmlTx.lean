/- Texts that are cut at some signs, told over lists of characters: plain lemmas. -/
import Derived.Test.YtkklapoceknbcaaGreatDoorXmlPlain
import Derived.Test.YtkklapoceknbcaaGreatDoorGr
namespace Go.Proofs.YtkklapoceknbcaaGreatDoor
open Go.RowKit
/-- Bytes above 127 begin no sign below 128. -/
theorem index_high (x : UInt8) (s : List UInt8) (hx : x.toNat < 128) : ∀ (m r : List UInt8), (∀ b ∈ m, 128 ≤ b.toNat) → Lib.index (m ++ r) (x :: s) = if Lib.index r (x :: s) = -1 then -1 else Lib.index r (x :: s) + (m.length : Nat)
  | [], r, _ => by
    rw [List.nil_append]
    split
    · assumption
    · simp
  | b :: m, r, h => by
    have ih := index_high x s hx m r (fun c hc => h c (List.mem_cons_of_mem _ hc))
    have hb := h b (by simp)
    have hne : (x == b) = false := by
      rw [beq_eq_false_iff_ne]
      rintro rfl
      omega
    have hp : (x :: s).isPrefixOf (b :: (m ++ r)) = false := by
      show (x == b && s.isPrefixOf (m ++ r)) = false
      rw [hne, Bool.false_and]
    rw [List.cons_append, Lib.index, hp, ih]
    by_cases h1 : Lib.index r (x :: s) = -1
    · simp [h1]
    · have hg := Lib.index_ge r (x :: s)
      have : ¬ (Lib.index r (x :: s) + (m.length : Nat)) = -1 := by omega
      simp [h1, this]
      omega
theorem asc_toNat {c : Nat} (h : c < 128) : (UInt8.ofNat c).toNat = c := u8_nat (by omega)
theorem index_tx (sign : List Nat) (hs : ∀ c ∈ sign, c < 128) (hne : sign ≠ []) : ∀ l : List Nat, okL l →
    (∀ a b, cutL sign l = some (a, b) → Lib.index (tx l) (sign.map UInt8.ofNat) = ((tx a).length : Nat) ∧ l = a ++ sign ++ b) ∧ (cutL sign l = none → Lib.index (tx l) (sign.map UInt8.ofNat) = -1)
  | [], _ => by
    refine ⟨fun a b h => (by rw [cutL] at h; cases h), fun _ => ?_⟩
    rw [tx_nil, Lib.index]
    cases sign with
    | nil => exact absurd rfl hne
    | cons _ _ => rfl
  | c :: t, hl => by
    have hp := pre_tx sign (c :: t) hs hl
    unfold Lib.hasPrefix at hp
    obtain ⟨x, m, hx, _⟩ := runeB_first (charR_ok (hl c (by simp)))
    have ht : tx (c :: t) = x :: (m ++ tx t) := by rw [tx_cons, hx]; rfl
    rw [ht] at hp
    have ih := index_tx sign hs hne t (okL_tail hl)
    by_cases hh : sign.isPrefixOf (c :: t) = true
    · rw [hh] at hp
      rw [cutL, if_pos hh, ht, Lib.index, if_pos hp]
      refine ⟨?_, fun h => by cases h⟩
      intro a b h
      cases h
      refine ⟨rfl, ?_⟩
      obtain ⟨u, hu⟩ := List.isPrefixOf_iff_prefix.1 hh
      rw [← hu, List.drop_left]
      rfl
    · have hf : sign.isPrefixOf (c :: t) = false := Bool.eq_false_iff.2 hh
      rw [hf] at hp
      have hm : Lib.index (m ++ tx t) (sign.map UInt8.ofNat) = if Lib.index (tx t) (sign.map UInt8.ofNat) = -1 then -1 else Lib.index (tx t) (sign.map UInt8.ofNat) + (m.length : Nat) := by
        cases sign with
        | nil => exact absurd rfl hne
        | cons y s =>
          have hy := hs y (by simp)
          rw [List.map_cons]
          refine index_high _ _ (by rw [asc_toNat hy]; exact hy) m _ ?_
          intro b hb
          by_cases h1 : c < 128
          · rw [runeB_one h1] at hx
            cases hx
            cases hb
          · exact runeB_high (charR_ok (hl c (by simp))) (by omega) b (by rw [hx]; simp [hb])
      have hlen : (runeB c).length = m.length + 1 := by rw [hx]; rfl
      rw [cutL, if_neg hh, ht, Lib.index, if_neg (by rw [hp]; decide), hm]
      refine ⟨?_, ?_⟩
      · intro a b h
        cases hc : cutL sign t with
        | none => rw [hc] at h; cases h
        | some ab =>
          obtain ⟨a', b'⟩ := ab
          rw [hc] at h
          cases h
          obtain ⟨e1, e2⟩ := ih.1 a' b' hc
          rw [e1]
          have n1 : ¬ (((tx a').length : Nat) : Int) = -1 := by omega
          have n2 : ¬ ((((tx a').length : Nat) : Int) + (m.length : Nat)) = -1 := by omega
          refine ⟨?_, by rw [e2]; rfl⟩
          rw [if_neg n1, if_neg (by simpa using n2)]
          show _ = (((tx (c :: a')).length : Nat) : Int)
          rw [tx_cons, List.length_append, hlen]
          omega
      · intro h
        cases hc : cutL sign t with
        | none => rw [ih.2 hc]; rfl
        | some ab => rw [hc] at h; cases h
theorem cutL_app {sign l a b : List Nat} (hs : ∀ c ∈ sign, c < 128) (hne : sign ≠ []) (hl : okL l) (h : cutL sign l = some (a, b)) : l = a ++ sign ++ b := ((index_tx sign hs hne l hl).1 a b h).2
theorem sign_len_tx {sign : List Nat} (hs : ∀ c ∈ sign, c < 128) : tx sign = sign.map UInt8.ofNat := by
  induction sign with
  | nil => rfl
  | cons c t ih => rw [tx_cons, runeB_one (hs c (by simp)), ih (fun x hx => hs x (by simp [hx]))]; rfl
/-- A text that is cut at signs below 128. -/
theorem cut_txs (sign : List Nat) (hs : ∀ c ∈ sign, c < 128) (hne : sign ≠ []) (l : List Nat) (hl : okL l) : Lib.cut (tx l) (sign.map UInt8.ofNat) =
    match cutL sign l with | some (a, b) => (tx a, tx b, true) | none => (tx l, [], false) := by
  have h := index_tx sign hs hne l hl
  unfold Lib.cut
  cases hc : cutL sign l with
  | none => rw [h.2 hc]; rfl
  | some ab =>
    obtain ⟨a, b⟩ := ab
    obtain ⟨e1, e2⟩ := h.1 a b hc
    rw [e1, if_pos (by omega)]
    have e3 : tx l = tx a ++ (sign.map UInt8.ofNat ++ tx b) := by
      conv => lhs; rw [e2, tx_append, tx_append, sign_len_tx hs]
      rw [List.append_assoc]
    simp only [Int.toNat_natCast]
    rw [e3, List.take_left, ← List.drop_drop, List.drop_left, List.drop_left]
theorem cutL_len {sign : List Nat} (hne : sign ≠ []) : ∀ {l a b : List Nat}, cutL sign l = some (a, b) → a.length + sign.length ≤ l.length
  | [], a, b, h => by rw [cutL] at h; cases h
  | c :: t, a, b, h => by
    rw [cutL] at h
    split at h
    · rename_i hp
      cases h
      have := (List.isPrefixOf_iff_prefix.1 hp).length_le
      simpa using this
    · cases hc : cutL sign t with
      | none => rw [hc] at h; cases h
      | some ab =>
        rw [hc] at h
        cases h
        have := cutL_len hne (a := ab.1) (b := ab.2) (l := t) (by rw [hc])
        simp only [List.length_cons]
        omega
end Go.Proofs.YtkklapoceknbcaaGreatDoor
