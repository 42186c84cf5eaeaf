/- Texts, as characters one behind the other, in UTF-8 and UTF-16: plain lemmas. -/
import Derived.Test.YtfgifocgkiploaaGreatDoorRunePlain
import Derived.Test.YtfgifocgkiploaaGreatDoorEndsPlain
import Derived.Test.YtfgifocgkiploaaGreatDoorMarkPlain
namespace Go.Proofs.YtfgifocgkiploaaGreatDoor
open Go.RowKit
theorem charB_dec (s : ByteArray) (pos : Nat) : charB ((Utf8.decode s pos).1 : Nat) = charR ((Utf8.decode s pos).1 : Nat) :=
  charB_eq _ (by have := rune_le s pos; omega)
theorem txt_nil : Txt [] := ⟨[], by simp, rfl⟩
theorem txt_cons {r : Nat} {t : List UInt8} (hr : charR (r : Int) = true) (h : Txt t) : Txt (runeB r ++ t) := by
  obtain ⟨rs, h1, rfl⟩ := h
  exact ⟨r :: rs, fun x hx => by rcases List.mem_cons.1 hx with rfl | hx; exact hr; exact h1 x hx, rfl⟩
theorem txt_snoc {r : Nat} {t : List UInt8} (hr : charR (r : Int) = true) (h : Txt t) : Txt (t ++ runeB r) := by
  obtain ⟨rs, h1, rfl⟩ := h
  exact ⟨rs ++ [r], fun x hx => by rcases List.mem_append.1 hx with hx | hx; exact h1 x hx; rw [List.mem_singleton.1 hx]; exact hr, by simp⟩
theorem txt_head {l : List UInt8} (h : Txt l) (hl : l ≠ []) : charR ((Lib.decodeL l).1 : Nat) = true ∧ l = runeB (Lib.decodeL l).1 ++ l.drop (Lib.decodeL l).2 ∧ Txt (l.drop (Lib.decodeL l).2) ∧ ¬ ((Lib.decodeL l).1 = 65533 ∧ (Lib.decodeL l).2 = 1) := by
  obtain ⟨rs, h1, rfl⟩ := h
  cases rs with
  | nil => exact absurd rfl hl
  | cons r rs =>
    have hr := h1 r (by simp)
    have e : (r :: rs).flatMap runeB = runeB r ++ rs.flatMap runeB := rfl
    rw [e, dec_rune r (charR_ok hr)]
    simp only [List.drop_left]
    refine ⟨hr, trivial, ⟨rs, fun x hx => h1 x (by simp [hx]), rfl⟩, ?_⟩
    rintro ⟨rfl, hh⟩
    exact absurd hh (by decide +kernel)
theorem drop_nil (s : ByteArray) (pos : Nat) (h : ¬ pos < s.size) : s.data.toList.drop pos = [] := List.drop_eq_nil_of_le (by show s.size ≤ pos; omega)
theorem drop_ne (s : ByteArray) (pos : Nat) (h : pos < s.size) : s.data.toList.drop pos ≠ [] := by
  intro e
  have := congrArg List.length e
  rw [List.length_drop] at this
  have h' : s.data.toList.length = s.size := rfl
  simp at this
  omega
theorem fault_txt (s : ByteArray) : ∀ f pos, s.size < pos + f → ((faultFrom s f pos).1 = 0 ↔ Txt (s.data.toList.drop pos))
  | 0, pos, h => by
    rw [drop_nil s pos (by omega)]
    exact ⟨fun _ => txt_nil, fun _ => rfl⟩
  | f + 1, pos, h => by
    by_cases hp : pos < s.size
    · rw [faultFrom, if_pos hp, charB_dec]
      have hne := drop_ne s pos hp
      have hw := width_pos s pos hp
      have hmw := mark_width s pos
      have hrd := rune_dec _ hne
      have hth := fun hx => txt_head (l := s.data.toList.drop pos) hx hne
      rw [Lib.decodeL_drop] at hrd hth
      rw [List.drop_drop] at hrd hth
      have ih := fault_txt s f (pos + (Utf8.decode s pos).2) (by omega)
      generalize Utf8.decode s pos = d at *
      by_cases hb : d.1 = 65533 ∧ d.2 = 1
      · have e : (((d.1 : Nat) : Int) == 65533 && !markAt s pos) = true := by rw [hmw hb.1, hb.1, hb.2]; rfl
        rw [if_pos e]
        exact ⟨fun h => absurd h (by simp), fun h => absurd hb (hth h).2.2.2⟩
      · have e : ¬ (((d.1 : Nat) : Int) == 65533 && !markAt s pos) = true := by
          intro h
          rw [Bool.and_eq_true] at h
          have h1 : d.1 = 65533 := by have := beq_iff_eq.1 h.1; omega
          rw [hmw h1] at h
          exact hb ⟨h1, beq_iff_eq.1 h.2⟩
        rw [if_neg e]
        obtain ⟨ho, heq⟩ := hrd hb
        by_cases hc : charR ((d.1 : Nat) : Int) = true
        · rw [if_pos hc, ih]
          exact ⟨fun h => by rw [heq]; exact txt_cons hc h, fun h => (hth h).2.2.1⟩
        · rw [if_neg hc]
          exact ⟨fun h => absurd h (by simp), fun h => absurd (hth h).1 hc⟩
    · rw [faultFrom, if_neg hp, drop_nil s pos hp]
      exact ⟨fun _ => txt_nil, fun _ => rfl⟩
theorem dec_txt (s : ByteArray) (high : Bool) : ∀ f pos acc, Txt acc → (decFrom s high f pos acc).2.1 = 0 → Txt (decFrom s high f pos acc).1
  | 0, _, acc, ha, _ => ha
  | f + 1, pos, acc, ha, h0 => by
    rw [decFrom] at h0 ⊢
    by_cases hp : pos < s.size
    · rw [if_pos hp] at h0 ⊢
      by_cases hz : (wideAt s pos high).2 = 0
      · rw [if_pos hz] at h0; exact absurd h0 (by simp)
      · rw [if_neg hz] at h0 ⊢
        by_cases hc : charB ((wideAt s pos high).1 : Nat) = false
        · rw [if_pos hc] at h0; exact absurd h0 (by simp)
        · rw [if_neg hc] at h0 ⊢
          refine dec_txt s high f _ _ (txt_snoc ?_ ha) h0
          rw [← charB_eq _ (by have := (wideAt_le s pos high).1; omega)]
          simpa using hc
    · rw [if_neg hp] at h0 ⊢
      exact ha
theorem txt_ends : ∀ rs : List Nat, (∀ r ∈ rs, charR (r : Int) = true) → Txt (endsR (rs.flatMap runeB))
  | [], _ => txt_nil
  | r :: rs, h => by
    have hr := h r (by simp)
    have ih := txt_ends rs (fun x hx => h x (by simp [hx]))
    have e : (r :: rs).flatMap runeB = runeB r ++ rs.flatMap runeB := rfl
    rw [e]
    by_cases h13 : r = 13
    · subst h13
      rw [show runeB 13 = [13] from by decide +kernel]
      generalize rs.flatMap runeB = t at *
      have h10 : ∀ u, Txt u → Txt (10 :: u) := fun u hu => txt_cons (r := 10) (by decide) hu
      match t with
      | [] => exact h10 [] txt_nil
      | d :: u =>
        show Txt (endsR (13 :: d :: u))
        rw [endsR]
        split
        · exact ih
        · exact h10 _ ih
    · rw [endsR_app _ _ (runeB_no (charR_ok hr) h13)]
      exact txt_cons hr ih
theorem txt_first {l : List UInt8} (h : Txt l) (a b : UInt8) (ha : 248 ≤ a.toNat) : Lib.hasPrefix l [a, b] = false := by
  obtain ⟨rs, h1, rfl⟩ := h
  cases rs with
  | nil => rfl
  | cons r rs =>
    obtain ⟨c, t, e, hc, _⟩ := runeB_first (charR_ok (h1 r (by simp)))
    show Lib.hasPrefix (runeB r ++ rs.flatMap runeB) [a, b] = false
    rw [e]
    unfold Lib.hasPrefix
    simp only [List.cons_append, List.isPrefixOf, Bool.and_eq_false_imp]
    intro hh
    have := beq_iff_eq.1 hh
    subst this
    omega
theorem txt_narrow {l : List UInt8} (h : Txt l) : Txt (narrowL l) := by
  unfold narrowL Lib.trimPrefix
  by_cases hp : Lib.hasPrefix l [239, 187, 191] = true
  · rw [if_pos hp]
    have hp' := hp
    unfold Lib.hasPrefix at hp'
    obtain ⟨t, rfl⟩ := List.isPrefixOf_iff_prefix.1 hp'
    have hne : ([239, 187, 191] ++ t : List UInt8) ≠ [] := by simp
    have hd : Lib.decodeL ([239, 187, 191] ++ t) = (65279, 3) := by
      have e : ([239, 187, 191] : List UInt8) = runeB 65279 := by decide +kernel
      rw [e, dec_rune _ (by unfold okR; omega)]
      decide +kernel
    have := (txt_head h hne).2.2.1
    rw [hd] at this
    exact this
  · rw [if_neg hp]; exact h
theorem wide_txt (s : ByteArray) : ∀ (rs : List Nat) f pos, s.size < pos + f → s.data.toList.drop pos = rs.flatMap runeB → (∀ r ∈ rs, charR (r : Int) = true) → wideFrom s f pos = rs.flatMap wideR
  | [], f, pos, hf, hd, _ => by
    have hp : ¬ pos < s.size := fun h => drop_ne s pos h hd
    cases f with
    | zero => rfl
    | succ f => rw [wideFrom, if_neg hp]; rfl
  | r :: rs, f, pos, hf, hd, h => by
    have hr := charR_ok (h r (by simp))
    obtain ⟨c, t, e, _, _⟩ := runeB_first hr
    have hp : pos < s.size := by
      by_cases hp : pos < s.size
      · exact hp
      · rw [drop_nil s pos hp] at hd
        have : (r :: rs).flatMap runeB = runeB r ++ rs.flatMap runeB := rfl
        rw [this, e] at hd
        cases hd
    have hdec : Utf8.decode s pos = (r, (runeB r).length) := by
      rw [← Lib.decodeL_drop, hd]
      exact dec_rune r hr _
    cases f with
    | zero => omega
    | succ f =>
      rw [wideFrom, if_pos hp, hdec]
      have hlen : 1 ≤ (runeB r).length := by rw [e]; simp
      have := wide_txt s rs f (pos + (runeB r).length) (by omega) (by rw [← List.drop_drop, hd]; exact List.drop_left) (fun x hx => h x (by simp [hx]))
      simp only
      rw [this]
      rfl
theorem get_drop (s : ByteArray) (pos k : Nat) : s.get! (pos + k) = (s.data.toList.drop pos).getD k 0 := by
  rw [Lib.getD_dropU, Lib.getD_get!']
theorem unit_read (a : Nat) (h : a < 65536) : (UInt8.ofNat (a / 256)).toNat * 256 + (UInt8.ofNat (a % 256)).toNat = a := by
  rw [u8_nat (by omega), u8_nat (by omega)]; omega
theorem wideAt_read (s : ByteArray) (pos r : Nat) (t : List UInt8) (ho : okR r) (hd : s.data.toList.drop pos = wideR r ++ t) : wideAt s pos false = (r, (wideR r).length) ∧ pos < s.size := by
  have hl := congrArg List.length hd
  rw [List.length_drop, List.length_append] at hl
  have hl' : s.data.toList.length = s.size := rfl
  unfold okR at ho
  have g0 := get_drop s pos 0
  have g1 := get_drop s pos 1
  have g2 := get_drop s pos 2
  have g3 := get_drop s pos 3
  rw [Nat.add_zero] at g0
  rw [hd] at g0 g1 g2 g3
  by_cases h1 : r < 65536
  · have e : wideR r = unitB r := by unfold wideR; rw [if_pos h1]
    rw [e] at hl g0 g1 g2 g3 ⊢
    unfold unitB at hl g0 g1 ⊢
    simp only [List.cons_append, List.nil_append, List.getD_cons_zero, List.getD_cons_succ, List.length_cons, List.length_nil] at hl g0 g1 ⊢
    have hu : unitN s pos false = r := by
      unfold unitN; rw [if_neg (by decide), g0, g1]; exact unit_read r h1
    refine ⟨?_, by omega⟩
    unfold wideAt
    rw [hu, if_neg (by omega), if_pos (by simp; omega)]
  · have e : wideR r = unitB (55296 + (r - 65536) / 1024) ++ unitB (56320 + (r - 65536) % 1024) := by unfold wideR; rw [if_neg h1]
    rw [e] at hl g0 g1 g2 g3 ⊢
    unfold unitB at hl g0 g1 g2 g3 ⊢
    simp only [List.cons_append, List.nil_append, List.getD_cons_zero, List.getD_cons_succ, List.length_cons, List.length_nil] at hl g0 g1 g2 g3 ⊢
    have hu : unitN s pos false = 55296 + (r - 65536) / 1024 := by
      unfold unitN; rw [if_neg (by decide), g0, g1]; exact unit_read _ (by omega)
    have hv : unitN s (pos + 2) false = 56320 + (r - 65536) % 1024 := by
      unfold unitN; rw [if_neg (by decide), g2, show pos + 2 + 1 = pos + 3 from rfl, g3]; exact unit_read _ (by omega)
    refine ⟨?_, by omega⟩
    unfold wideAt
    rw [hu, hv, if_neg (by omega), if_neg (by simp; omega), if_neg (by omega), if_neg (by simp [pairB]; omega)]
    apply Prod.ext <;> simp only <;> omega
theorem dec_back (s : ByteArray) : ∀ (rs : List Nat) f pos acc, s.size < pos + f → s.data.toList.drop pos = rs.flatMap wideR → (∀ r ∈ rs, charR (r : Int) = true) → decFrom s false f pos acc = (acc ++ rs.flatMap runeB, 0, 0)
  | [], f, pos, acc, hf, hd, _ => by
    have hp : ¬ pos < s.size := fun h => drop_ne s pos h hd
    cases f with
    | zero => simp [decFrom]
    | succ f => rw [decFrom, if_neg hp]; simp
  | r :: rs, f, pos, acc, hf, hd, h => by
    have hr := h r (by simp)
    have e : (r :: rs).flatMap wideR = wideR r ++ rs.flatMap wideR := rfl
    rw [e] at hd
    obtain ⟨hw, hp⟩ := wideAt_read s pos r _ (charR_ok hr) hd
    have hlen : 2 ≤ (wideR r).length := by unfold wideR unitB; split <;> simp
    cases f with
    | zero => omega
    | succ f =>
      have hcb : charB ((r : Nat) : Int) = true := by rw [charB_eq _ (by have := charR_ok hr; unfold okR at this; omega)]; exact hr
      rw [decFrom, if_pos hp, hw]
      simp only
      rw [if_neg (by omega), if_neg (by rw [hcb]; decide)]
      rw [dec_back s rs f _ _ (by omega) (by rw [← List.drop_drop, hd]; exact List.drop_left) (fun x hx => h x (by simp [hx]))]
      simp [List.append_assoc]
end Go.Proofs.YtfgifocgkiploaaGreatDoor
