/- Several texts, laid as one. -/
import Derived.Test.YtiembljlhmgpjaaGreatDoorGac
import Derived.Test.YtiembljlhmgpjaaGreatDoorGaf
import Derived.Test.YtiembljlhmgpjaaGreatDoorGad
import Derived.Test.YtiembljlhmgpjaaGreatDoorGae
import Derived.Test.YtiembljlhmgpjaaGreatDoorGbe
/- Line ends, byte by byte: plain lemmas. -/
namespace Go.Proofs.YtiembljlhmgpjaaGreatDoor
open Go.RowKit
theorem prefix_index {old : List UInt8} {c : UInt8} {t : List UInt8} (h : old.isPrefixOf (c :: t) = true) : Lib.index (c :: t) old = ((0 : Nat) : Int) := by
  unfold Lib.index; rw [if_pos h]; rfl
theorem replaceK_miss (old new : List UInt8) (k : Nat) (c : UInt8) (t : List UInt8) (h : old.isPrefixOf (c :: t) = false) :
    Lib.replaceK old new k (c :: t) = c :: Lib.replaceK old new k t := by
  cases k with
  | zero => rfl
  | succ k =>
    have hc : Lib.index (c :: t) old = if Lib.index t old == -1 then -1 else Lib.index t old + 1 := by
      rw [Lib.index, if_neg (by rw [h]; decide)]
    by_cases hm : Lib.index t old = -1
    · rw [Lib.replaceK, hc, hm, Lib.replaceK, hm]; rfl
    · have hg := Lib.index_ge t old
      obtain ⟨i, hi⟩ : ∃ i : Nat, Lib.index t old = i := ⟨(Lib.index t old).toNat, by omega⟩
      have hc' : Lib.index (c :: t) old = ((i + 1 : Nat) : Int) := by
        rw [hc, if_neg (by simpa using hm), hi]; omega
      rw [Lib.replaceK_hit old new k _ _ hc', Lib.replaceK_hit old new k _ _ hi]
      have e : i + 1 + old.length = (i + old.length) + 1 := by omega
      rw [e]
      rfl
theorem count_cons_miss (old : List UInt8) (ho : old ≠ []) (c : UInt8) (t : List UInt8) (h : old.isPrefixOf (c :: t) = false) : Lib.count (c :: t) old = Lib.count t old := by
  have hc : Lib.index (c :: t) old = if Lib.index t old == -1 then -1 else Lib.index t old + 1 := by
    rw [Lib.index, if_neg (by rw [h]; decide)]
  by_cases hm : Lib.index t old = -1
  · rw [Lib.count_miss hm, Lib.count_miss (by rw [hc, hm]; rfl)]
  · have hg := Lib.index_ge t old
    obtain ⟨i, hi⟩ : ∃ i : Nat, Lib.index t old = i := ⟨(Lib.index t old).toNat, by omega⟩
    have hc' : Lib.index (c :: t) old = ((i + 1 : Nat) : Int) := by
      rw [hc, if_neg (by simpa using hm), hi]; omega
    rw [Lib.count_hit ho hc', Lib.count_hit ho hi]
    have e : i + 1 + old.length = (i + old.length) + 1 := by omega
    rw [e]
    rfl
theorem count_cons_hit (old : List UInt8) (ho : old ≠ []) (t : List UInt8) : Lib.count (old ++ t) old = 1 + Lib.count t old := by
  have h : Lib.index (old ++ t) old = ((0 : Nat) : Int) := by
    cases old with
    | nil => exact absurd rfl ho
    | cons a l => exact prefix_index (List.isPrefixOf_iff_prefix.2 ⟨t, rfl⟩)
  rw [Lib.count_hit ho h]
  simp
theorem replaceK_pre (old new : List UInt8) (ho : old ≠ []) (k : Nat) (t : List UInt8) : Lib.replaceK old new (k + 1) (old ++ t) = new ++ Lib.replaceK old new k t := by
  have h : Lib.index (old ++ t) old = ((0 : Nat) : Int) := by
    cases old with
    | nil => exact absurd rfl ho
    | cons a l => exact prefix_index (List.isPrefixOf_iff_prefix.2 ⟨t, rfl⟩)
  rw [Lib.replaceK_hit old new k _ _ h]
  simp
theorem replaceAll_eq (s old new : List UInt8) (h : (old == new) = false) : Lib.replaceAll s old new = Lib.replaceK old new (Lib.count s old) s := by
  unfold Lib.replaceAll Lib.replace
  rw [if_neg (by rw [h]; decide)]
  congr 1
/-- Pairs of 13 and 10 become 10. -/
def pairs : List UInt8 → List UInt8
  | [] => []
  | [c] => [c]
  | c :: d :: t => if c = 13 ∧ d = 10 then 10 :: pairs t else c :: pairs (d :: t)
theorem pairs_eq : ∀ (n : Nat) (l : List UInt8), l.length ≤ n → Lib.replaceAll l [13, 10] [10] = pairs l
  | _, [], _ => by decide +kernel
  | _, [c], _ => by
    rw [replaceAll_eq _ _ _ (by decide), count_cons_miss _ (by decide) _ _ (by simp [List.isPrefixOf]), replaceK_miss _ _ _ _ _ (by simp [List.isPrefixOf])]
    rfl
  | 0, c :: d :: t, h => by simp at h
  | n + 1, c :: d :: t, h => by
    rw [replaceAll_eq _ _ _ (by decide), pairs]
    by_cases hc : c = 13 ∧ d = 10
    · obtain ⟨rfl, rfl⟩ := hc
      rw [if_pos ⟨rfl, rfl⟩, ← pairs_eq n t (by simp at h; omega), replaceAll_eq _ _ _ (by decide)]
      have e : (13 :: 10 :: t : List UInt8) = [13, 10] ++ t := rfl
      rw [e, count_cons_hit _ (by decide), Nat.add_comm, replaceK_pre _ _ (by decide)]
      rfl
    · have hp : ([13, 10] : List UInt8).isPrefixOf (c :: d :: t) = false := by
        simp only [List.isPrefixOf, Bool.and_true]
        by_cases h1 : c = 13
        · by_cases h2 : d = 10
          · exact absurd ⟨h1, h2⟩ hc
          · have : ((10 : UInt8) == d) = false := by simpa using fun h => h2 h.symm
            rw [this, Bool.and_false]
        · have : ((13 : UInt8) == c) = false := by simpa using fun h => h1 h.symm
          rw [this, Bool.false_and]
      rw [if_neg hc, count_cons_miss _ (by decide) _ _ hp, replaceK_miss _ _ _ _ _ hp, ← replaceAll_eq _ _ _ (by decide), pairs_eq n (d :: t) (by simp at h ⊢; omega)]
def single (c : UInt8) : UInt8 := if c = 13 then 10 else c
theorem singles_eq (l : List UInt8) : Lib.replaceAll l [13] [10] = l.map single := by
  induction l with
  | nil => decide +kernel
  | cons c t ih =>
    rw [replaceAll_eq _ _ _ (by decide)] at ih ⊢
    by_cases hc : c = 13
    · subst hc
      have e : (13 :: t : List UInt8) = [13] ++ t := rfl
      rw [e, count_cons_hit _ (by decide), Nat.add_comm, replaceK_pre _ _ (by decide), ih]
      rfl
    · have hp : ([13] : List UInt8).isPrefixOf (c :: t) = false := by
        simp only [List.isPrefixOf, Bool.and_true]
        simpa using fun h => hc h.symm
      rw [count_cons_miss _ (by decide) _ _ hp, replaceK_miss _ _ _ _ _ hp, ih]
      simp [single, hc]
/-- Line ends, byte by byte. -/
def endsR : List UInt8 → List UInt8
  | [] => []
  | [c] => [single c]
  | c :: d :: t => if c = 13 ∧ d = 10 then endsR (d :: t) else single c :: endsR (d :: t)
theorem endsR_hit (t : List UInt8) : endsR (13 :: 10 :: t) = 10 :: endsR t := by
  rw [endsR, if_pos ⟨rfl, rfl⟩]
  cases t with
  | nil => rfl
  | cons a u => rw [endsR, if_neg (fun h => absurd h.1 (by decide))]; rfl
theorem endsL_eq : ∀ (n : Nat) (l : List UInt8), l.length ≤ n → endsL l = endsR l := by
  have key : ∀ (n : Nat) (l : List UInt8), l.length ≤ n → (pairs l).map single = endsR l := by
    intro n
    induction n with
    | zero => intro l h; cases l <;> simp at h; rfl
    | succ n ih =>
      intro l h
      match l, h with
      | [], _ => rfl
      | [c], _ => rfl
      | c :: d :: t, h =>
        by_cases hc : c = 13 ∧ d = 10
        · obtain ⟨rfl, rfl⟩ := hc
          rw [endsR_hit, pairs, if_pos ⟨rfl, rfl⟩, ← ih t (by simp at h; omega)]
          rfl
        · rw [endsR, if_neg hc, pairs, if_neg hc, ← ih (d :: t) (by simp at h ⊢; omega)]
          rfl
  intro n l h
  unfold endsL
  rw [pairs_eq n l h, singles_eq, key n l h]
theorem endsR_plain : ∀ l : List UInt8, (∀ c ∈ l, c ≠ 13) → endsR l = l
  | [], _ => rfl
  | [c], h => by simp [endsR, single, h c (by simp)]
  | c :: d :: t, h => by
    have hc : c ≠ 13 := h c (by simp)
    rw [endsR, if_neg (fun x => hc x.1), endsR_plain (d :: t) (fun x hx => h x (by simp at hx ⊢; exact .inr hx))]
    simp [single, hc]
theorem endsR_no : ∀ l : List UInt8, ∀ c ∈ endsR l, c ≠ 13
  | [], c, h => by simp [endsR] at h
  | [d], c, h => by
    simp [endsR, single] at h
    subst h
    split
    · decide
    · assumption
  | d :: e :: t, c, h => by
    rw [endsR] at h
    split at h
    · exact endsR_no (e :: t) c h
    · rcases List.mem_cons.1 h with rfl | h
      · unfold single; split
        · decide
        · assumption
      · exact endsR_no (e :: t) c h
theorem endsR_cons (c : UInt8) (t : List UInt8) (hc : c ≠ 13) : endsR (c :: t) = c :: endsR t := by
  cases t with
  | nil => simp [endsR, single, hc]
  | cons d u => rw [endsR, if_neg (fun h => hc h.1)]; simp [single, hc]
theorem endsR_app : ∀ (a b : List UInt8), (∀ c ∈ a, c ≠ 13) → endsR (a ++ b) = a ++ endsR b
  | [], _, _ => rfl
  | c :: a, b, h => by
    rw [List.cons_append, endsR_cons c _ (h c (by simp)), endsR_app a b (fun x hx => h x (by simp [hx]))]
    rfl
end Go.Proofs.YtiembljlhmgpjaaGreatDoor
/- Texts, as characters one behind the other, in UTF-8 and UTF-16: plain lemmas. -/
namespace Go.Proofs.YtiembljlhmgpjaaGreatDoor
open Go.RowKit
theorem dec_txt (s : ByteArray) (high : Bool) : ∀ f pos acc, Txt acc → (decFrom s high f pos acc).2.1 = 0 → Txt (decFrom s high f pos acc).1
  | 0, _, acc, ha, _ => ha
  | f + 1, pos, acc, ha, h0 => by
    rw [decFrom] at h0 ⊢
    by_cases hp : pos < s.size
    · rw [if_pos hp] at h0 ⊢
      by_cases hz : (wideAt s pos high).2 = 0
      · rw [if_pos hz] at h0; exact absurd h0 (by simp)
      · rw [if_neg hz] at h0 ⊢
        by_cases hc : charB ((wideAt s pos high).1 : Nat) = false
        · rw [if_pos hc] at h0; exact absurd h0 (by simp)
        · rw [if_neg hc] at h0 ⊢
          refine dec_txt s high f _ _ (txt_snoc ?_ ha) h0
          rw [← charB_eq _ (by have := (wideAt_le s pos high).1; omega)]
          simpa using hc
    · rw [if_neg hp] at h0 ⊢
      exact ha
theorem txt_ends : ∀ rs : List Nat, (∀ r ∈ rs, charR (r : Int) = true) → Txt (endsR (rs.flatMap runeB))
  | [], _ => txt_nil
  | r :: rs, h => by
    have hr := h r (by simp)
    have ih := txt_ends rs (fun x hx => h x (by simp [hx]))
    have e : (r :: rs).flatMap runeB = runeB r ++ rs.flatMap runeB := rfl
    rw [e]
    by_cases h13 : r = 13
    · subst h13
      rw [show runeB 13 = [13] from by decide +kernel]
      generalize rs.flatMap runeB = t at *
      have h10 : ∀ u, Txt u → Txt (10 :: u) := fun u hu => txt_cons (r := 10) (by decide) hu
      match t with
      | [] => exact h10 [] txt_nil
      | d :: u =>
        show Txt (endsR (13 :: d :: u))
        rw [endsR]
        split
        · exact ih
        · exact h10 _ ih
    · rw [endsR_app _ _ (runeB_no (charR_ok hr) h13)]
      exact txt_cons hr ih
theorem txt_first {l : List UInt8} (h : Txt l) (a b : UInt8) (ha : 248 ≤ a.toNat) : Lib.hasPrefix l [a, b] = false := by
  obtain ⟨rs, h1, rfl⟩ := h
  cases rs with
  | nil => rfl
  | cons r rs =>
    obtain ⟨c, t, e, hc, _⟩ := runeB_first (charR_ok (h1 r (by simp)))
    show Lib.hasPrefix (runeB r ++ rs.flatMap runeB) [a, b] = false
    rw [e]
    unfold Lib.hasPrefix
    simp only [List.cons_append, List.isPrefixOf, Bool.and_eq_false_imp]
    intro hh
    have := beq_iff_eq.1 hh
    subst this
    omega
theorem txt_narrow {l : List UInt8} (h : Txt l) : Txt (narrowL l) := by
  unfold narrowL Lib.trimPrefix
  by_cases hp : Lib.hasPrefix l [239, 187, 191] = true
  · rw [if_pos hp]
    have hp' := hp
    unfold Lib.hasPrefix at hp'
    obtain ⟨t, rfl⟩ := List.isPrefixOf_iff_prefix.1 hp'
    have hne : ([239, 187, 191] ++ t : List UInt8) ≠ [] := by simp
    have hd : Lib.decodeL ([239, 187, 191] ++ t) = (65279, 3) := by
      have e : ([239, 187, 191] : List UInt8) = runeB 65279 := by decide +kernel
      rw [e, dec_rune _ (by unfold okR; omega)]
      decide +kernel
    have := (txt_head h hne).2.2.1
    rw [hd] at this
    exact this
  · rw [if_neg hp]; exact h
theorem wide_txt (s : ByteArray) : ∀ (rs : List Nat) f pos, s.size < pos + f → s.data.toList.drop pos = rs.flatMap runeB → (∀ r ∈ rs, charR (r : Int) = true) → wideFrom s f pos = rs.flatMap wideR
  | [], f, pos, hf, hd, _ => by
    have hp : ¬ pos < s.size := fun h => drop_ne s pos h hd
    cases f with
    | zero => rfl
    | succ f => rw [wideFrom, if_neg hp]; rfl
  | r :: rs, f, pos, hf, hd, h => by
    have hr := charR_ok (h r (by simp))
    obtain ⟨c, t, e, _, _⟩ := runeB_first hr
    have hp : pos < s.size := by
      by_cases hp : pos < s.size
      · exact hp
      · rw [drop_nil s pos hp] at hd
        have : (r :: rs).flatMap runeB = runeB r ++ rs.flatMap runeB := rfl
        rw [this, e] at hd
        cases hd
    have hdec : Utf8.decode s pos = (r, (runeB r).length) := by
      rw [← Lib.decodeL_drop, hd]
      exact dec_rune r hr _
    cases f with
    | zero => omega
    | succ f =>
      rw [wideFrom, if_pos hp, hdec]
      have hlen : 1 ≤ (runeB r).length := by rw [e]; simp
      have := wide_txt s rs f (pos + (runeB r).length) (by omega) (by rw [← List.drop_drop, hd]; exact List.drop_left) (fun x hx => h x (by simp [hx]))
      simp only
      rw [this]
      rfl
theorem get_drop (s : ByteArray) (pos k : Nat) : s.get! (pos + k) = (s.data.toList.drop pos).getD k 0 := by
  rw [Lib.getD_dropU, Lib.getD_get!']
theorem unit_read (a : Nat) (h : a < 65536) : (UInt8.ofNat (a / 256)).toNat * 256 + (UInt8.ofNat (a % 256)).toNat = a := by
  rw [u8_nat (by omega), u8_nat (by omega)]; omega
theorem wideAt_read (s : ByteArray) (pos r : Nat) (t : List UInt8) (ho : okR r) (hd : s.data.toList.drop pos = wideR r ++ t) : wideAt s pos false = (r, (wideR r).length) ∧ pos < s.size := by
  have hl := congrArg List.length hd
  rw [List.length_drop, List.length_append] at hl
  have hl' : s.data.toList.length = s.size := rfl
  unfold okR at ho
  have g0 := get_drop s pos 0
  have g1 := get_drop s pos 1
  have g2 := get_drop s pos 2
  have g3 := get_drop s pos 3
  rw [Nat.add_zero] at g0
  rw [hd] at g0 g1 g2 g3
  by_cases h1 : r < 65536
  · have e : wideR r = unitB r := by unfold wideR; rw [if_pos h1]
    rw [e] at hl g0 g1 g2 g3 ⊢
    unfold unitB at hl g0 g1 ⊢
    simp only [List.cons_append, List.nil_append, List.getD_cons_zero, List.getD_cons_succ, List.length_cons, List.length_nil] at hl g0 g1 ⊢
    have hu : unitN s pos false = r := by
      unfold unitN; rw [if_neg (by decide), g0, g1]; exact unit_read r h1
    refine ⟨?_, by omega⟩
    unfold wideAt
    rw [hu, if_neg (by omega), if_pos (by simp; omega)]
  · have e : wideR r = unitB (55296 + (r - 65536) / 1024) ++ unitB (56320 + (r - 65536) % 1024) := by unfold wideR; rw [if_neg h1]
    rw [e] at hl g0 g1 g2 g3 ⊢
    unfold unitB at hl g0 g1 g2 g3 ⊢
    simp only [List.cons_append, List.nil_append, List.getD_cons_zero, List.getD_cons_succ, List.length_cons, List.length_nil] at hl g0 g1 g2 g3 ⊢
    have hu : unitN s pos false = 55296 + (r - 65536) / 1024 := by
      unfold unitN; rw [if_neg (by decide), g0, g1]; exact unit_read _ (by omega)
    have hv : unitN s (pos + 2) false = 56320 + (r - 65536) % 1024 := by
      unfold unitN; rw [if_neg (by decide), g2, show pos + 2 + 1 = pos + 3 from rfl, g3]; exact unit_read _ (by omega)
    refine ⟨?_, by omega⟩
    unfold wideAt
    rw [hu, hv, if_neg (by omega), if_neg (by simp; omega), if_neg (by omega), if_neg (by simp [pairB]; omega)]
    apply Prod.ext <;> simp only <;> omega
theorem dec_back (s : ByteArray) : ∀ (rs : List Nat) f pos acc, s.size < pos + f → s.data.toList.drop pos = rs.flatMap wideR → (∀ r ∈ rs, charR (r : Int) = true) → decFrom s false f pos acc = (acc ++ rs.flatMap runeB, 0, 0)
  | [], f, pos, acc, hf, hd, _ => by
    have hp : ¬ pos < s.size := fun h => drop_ne s pos h hd
    cases f with
    | zero => simp [decFrom]
    | succ f => rw [decFrom, if_neg hp]; simp
  | r :: rs, f, pos, acc, hf, hd, h => by
    have hr := h r (by simp)
    have e : (r :: rs).flatMap wideR = wideR r ++ rs.flatMap wideR := rfl
    rw [e] at hd
    obtain ⟨hw, hp⟩ := wideAt_read s pos r _ (charR_ok hr) hd
    have hlen : 2 ≤ (wideR r).length := by unfold wideR unitB; split <;> simp
    cases f with
    | zero => omega
    | succ f =>
      have hcb : charB ((r : Nat) : Int) = true := by rw [charB_eq _ (by have := charR_ok hr; unfold okR at this; omega)]; exact hr
      rw [decFrom, if_pos hp, hw]
      simp only
      rw [if_neg (by omega), if_neg (by rw [hcb]; decide)]
      rw [dec_back s rs f _ _ (by omega) (by rw [← List.drop_drop, hd]; exact List.drop_left) (fun x hx => h x (by simp [hx]))]
      simp [List.append_assoc]
end Go.Proofs.YtiembljlhmgpjaaGreatDoor
/- A text as bytes: xchar's Encode. -/
namespace Go.Proofs.YtiembljlhmgpjaaGreatDoor
open Go.RowKit
/-- A slice of bytes that is this text now and whatever is made later. -/
def BytesAt (w : World) (v : Value) (t : ByteArray) : Prop :=
  (∃ a c, v = .slice a t.size c) ∧ ∀ w', Below w.heap.size w w' → (convert 31 9 v).run Tryz.prog w' = .ok (.string t) w'
theorem bytesAt_row {w : World} {base : Nat} {v : Value} {l : List UInt8} (h : RowB w base v l) : BytesAt w v ⟨l.toArray⟩ :=
  ⟨row_slice h, fun _ hb => conv_row (row_below h (kept_below hb))⟩
theorem bytesAt_nil (w : World) : BytesAt w (.slice none 0 0) ⟨#[]⟩ :=
  ⟨⟨none, 0, rfl⟩, fun _ _ => by rw [run_convert_bytes_nil _ 31 5 Tryz.underlying31 Tryz.underlying5 _ _ _ Tryz.underlying9]; rfl⟩
theorem bytesAt_below {w w' : World} {v : Value} {t : ByteArray} (h : BytesAt w v t) (hb : Below w.heap.size w w') : BytesAt w' v t :=
  ⟨h.1, fun w'' hb' => h.2 w'' (Below.then hb hb')⟩
theorem bytesAt_made (w : World) (s : ByteArray) (cap : Nat) (fr : Nat × Nat) : BytesAt (w.drew.alloc (.cells (bytesRow s cap) 5 fr)) (.slice (some ⟨w.heap.size, 0, none⟩) s.size cap) s := by
  refine ⟨⟨_, _, rfl⟩, fun w' hb => ?_⟩
  have hl : s.data.toList.length = s.size := rfl
  have := run_convert_bytes_back (P := Tryz.prog) w' 31 9 5 ⟨w.heap.size, 0, none⟩ cap s.data.toList Tryz.underlying31 Tryz.underlying5 Tryz.underlying9 (fun j hj => by
    have e : (⟨w.heap.size, 0, none⟩ : Addr).add j = ⟨w.heap.size, j, none⟩ := by unfold Addr.add; split <;> simp_all
    rw [e, hb.cell (by simp)]
    have := World.cell?_alloc_mark w.drew (bytesRow s cap) 5 fr j
    rw [show w.drew.heap.size = w.heap.size from rfl] at this
    rw [this, bytesRow_at s cap j hj]
    rfl)
  rw [hl] at this
  rw [this]
/-- What Encode tells: the bytes and the error's number. -/
def encV (s : ByteArray) (wide : Bool) : ByteArray × Int :=
  if !Lib.validD s.data.toList then (⟨#[]⟩, 3) else if 32768 < s.size then (⟨#[]⟩, 6) else if wide then (⟨(encW s).toArray⟩, 0) else (s, 0)
theorem enc_ret {s : ByteArray} {wide : Bool} {w w' : World} {v : Value} {n : Int} {t : ByteArray} (h : encV s wide = (t, n)) (hb : BytesAt w' v t) (hB : Below w.heap.size w w') :
    ∃ v', Ending.returned (.tuple #[v, .int .i64 n]) = .returned (.tuple #[v', .int .i64 (encV s wide).2]) ∧ BytesAt w' v' (encV s wide).1 ∧ Below w.heap.size w w' :=
  ⟨v, by rw [h], by rw [h]; exact hb, hB⟩
set_option maxHeartbeats 1000000 in
theorem encode_any (s : ByteArray) (wide : Bool) (w : World) (hs : s.size ≤ 9223372036854775807) (hE : Env w) :
    Calls Tryz.prog 8 #[.string s, .bool wide] w fun e w' => ∃ v, e = .returned (.tuple #[v, .int .i64 (encV s wide).2]) ∧ BytesAt w' v (encV s wide).1 ∧ Below w.heap.size w w' := by
  have HE := hide hE
  clear hE
  have hcv := fun w => run_bytes_of_string (P := Tryz.prog) w 9 31 5 s Tryz.underlying9 Tryz.underlying31 Tryz.underlying5
  cases hv : Lib.validD s.data.toList
  · have HV := hide hv
    clear hv
    go_enter Tryz.func8, Tryz.ntmps8
    go_wp2_with fail
    refine (validString_any s _ hs (unhide HE)).mono ?_
    rintro e w1 ⟨rfl, hb1⟩
    rw [unhide HV]
    go_wp2
    go_ret2
    exact enc_ret (by unfold encV; rw [unhide HV]; rfl) (bytesAt_nil _) hb1
  · have HV := hide hv
    clear hv
    by_cases hl : 32768 < s.size
    · have hl' : (32768 : Int) < s.size := by omega
      go_enter Tryz.func8, Tryz.ntmps8
      go_wp2_with fail
      refine (validString_any s _ hs (unhide HE)).mono ?_
      rintro e w1 ⟨rfl, hb1⟩
      rw [unhide HV]
      go_wp2
      go_ret2
      exact enc_ret (by unfold encV; rw [unhide HV, if_neg (by decide), if_pos hl]) (bytesAt_nil _) hb1
    · have hl' : ¬ (32768 : Int) < s.size := by omega
      cases wide
      · go_enter Tryz.func8, Tryz.ntmps8
        go_wp2_with fail
        refine (validString_any s _ hs (unhide HE)).mono ?_
        rintro e w1 ⟨rfl, hb1⟩
        rw [unhide HV]
        go_wp2
        go_ret2
        have hm := bytesAt_made w1 s (grownCap w1 s.size 0 5)
        exact enc_ret (by unfold encV; rw [unhide HV, if_neg (by decide), if_neg hl, if_neg (by decide)]) (hm _) ((hb1.drew).alloc hb1.size _)
      · go_enter Tryz.func8, Tryz.ntmps8
        go_wp2_with fail
        refine (validString_any s _ hs (unhide HE)).mono ?_
        rintro e w1 ⟨rfl, hb1⟩
        rw [unhide HV]
        clear hcv
        go_wp2_with fail
        refine (encodeWide_any s _ (by omega)).mono ?_
        rintro e w2 ⟨v, rfl, hrow, hb2⟩
        go_wp2
        go_ret2
        exact enc_ret (by unfold encV; rw [unhide HV, if_neg (by decide), if_neg hl, if_pos rfl]) (bytesAt_row hrow) (Below.then hb1 hb2)
end Go.Proofs.YtiembljlhmgpjaaGreatDoor
/- Bytes as a text, whatever they are: xchar's Decode. -/
namespace Go.Proofs.YtiembljlhmgpjaaGreatDoor
open Go.RowKit
theorem decFrom_len (s : ByteArray) (high : Bool) : ∀ f pos acc, (decFrom s high f pos acc).1.length ≤ acc.length + 4 * f
  | 0, _, acc => Nat.le_refl _
  | f + 1, pos, acc => by
    rw [decFrom]
    split
    · split
      · simp
      · split
        · simp
        · have := decFrom_len s high f (pos + (wideAt s pos high).2) (acc ++ runeB (wideAt s pos high).1)
          have h2 := runeB_len (wideAt s pos high).1
          rw [List.length_append] at this
          omega
    · simp
theorem decW_len (s : ByteArray) (high : Bool) : (decW s high).1.length ≤ 4 * (s.size + 1) := by
  have := decFrom_len s high (s.size + 1) 2 []
  simpa [decW] using this
set_option maxRecDepth 100000 in
set_option maxHeartbeats 1000000 in
theorem decode_wide (a : Option Addr) (c : Nat) (t : ByteArray) (high : Bool) (w : World) (hE : Env w) (hs : t.size ≤ 32768)
    (hconv : (convert 31 9 (.slice a t.size c)).run Tryz.prog w = .ok (.string t) w)
    (h : Lib.hasPrefix t.data.toList (if high then [255, 254] else [254, 255]) = true) :
    Calls Tryz.prog 9 #[.slice a t.size c] w fun e w' => e = .returned (decEnd (decW t high)) ∧ Below w.heap.size w w' := by
  have HE := hide hE
  clear hE
  have hd := decodeAny_wide t high w (by omega) h
  have HD := hide hd
  have hlen := decW_len t high
  clear hd h
  go_enter Tryz.func9, Tryz.ntmps9
  go_wp2_with fail
  refine (unhide HD).mono ?_
  rintro e w1 ⟨rfl, hb⟩
  clear HD
  generalize hx : decW t high = x at *
  obtain ⟨l, e1, at1⟩ := x
  have HX := hide hx
  clear hx
  simp only at hlen
  unfold decV
  simp only
  by_cases hz : e1 = 0
  · subst hz
    go_wp2_with fail
    refine (endLines_any ⟨l.toArray⟩ _ ((unhide HE).below hb) (by rw [size_mk]; omega)).mono ?_
    rintro e w2 ⟨rfl, hb'⟩
    go_wp2
    go_ret3
    refine ⟨?_, Below.then hb hb'⟩
    rw [unhide HX]
    unfold decEnd
    rw [if_pos rfl]
    rfl
  · have hz' : (e1 != 0) = true := by simpa using hz
    go_wp2
    go_ret3
    refine ⟨?_, hb⟩
    rw [unhide HX]
    unfold decEnd
    rw [if_neg hz]
    rfl
set_option maxRecDepth 100000 in
set_option maxHeartbeats 1000000 in
theorem decode_any (v : Value) (t : ByteArray) (w : World) (hE : Env w) (hv : BytesAt w v t) (hs : t.size ≤ 9223372036854775807) :
    Calls Tryz.prog 9 #[v] w fun e w' => e = .returned (decodeAll t) ∧ Below w.heap.size w w' := by
  obtain ⟨⟨a, c, rfl⟩, hc⟩ := hv
  have hcv := hc w (Below.refl _ _)
  clear hc
  by_cases hbig : 32768 < t.size
  · have hbig' : (32768 : Int) < (t.size : Int) := by omega
    go_enter Tryz.func9, Tryz.ntmps9
    go_wp2
    go_ret3
    refine ⟨?_, Below.refl _ _⟩
    unfold decodeAll
    rw [if_pos hbig]
    rfl
  · by_cases h1 : Lib.hasPrefix t.data.toList [254, 255] = true
    · refine (decode_wide a c t false w hE (by omega) hcv (by simpa using h1)).mono ?_
      rintro e w' ⟨rfl, hb⟩
      refine ⟨?_, hb⟩
      unfold decodeAll
      rw [if_neg hbig, if_pos h1]
    · by_cases h2 : Lib.hasPrefix t.data.toList [255, 254] = true
      · refine (decode_wide a c t true w hE (by omega) hcv (by simpa using h2)).mono ?_
        rintro e w' ⟨rfl, hb⟩
        refine ⟨?_, hb⟩
        unfold decodeAll
        rw [if_neg hbig, if_neg h1, if_pos h2]
      · refine (decode_narrow a t.size c t w hE rfl (by omega) hcv (by simpa using h1) (by simpa using h2)).mono ?_
        rintro e w' ⟨rfl, hb⟩
        refine ⟨?_, hb⟩
        unfold decodeAll
        rw [if_neg hbig, if_neg h1, if_neg h2]
end Go.Proofs.YtiembljlhmgpjaaGreatDoor
/- What is encoded is decoded as it was; what is decoded is a text without 13: plain lemmas. -/
namespace Go.Proofs.YtiembljlhmgpjaaGreatDoor
open Go.RowKit
theorem txt_of_text (s : ByteArray) (h : textR s = true) : Txt s.data.toList := by
  have e := text_eq s (s.size + 1) 0
  unfold textR at h
  rw [h] at e
  have := (fault_txt s (s.size + 1) 0 (by omega)).1 (beq_iff_eq.1 e)
  simpa using this
theorem fault_of_txt (l : List UInt8) (h : Txt l) : (fault ⟨l.toArray⟩).1 = 0 :=
  (fault_txt ⟨l.toArray⟩ _ 0 (by omega)).2 (by simpa using h)
theorem txt_of_fault (l : List UInt8) (h : (fault ⟨l.toArray⟩).1 = 0) : Txt l := by
  have := (fault_txt ⟨l.toArray⟩ _ 0 (by omega)).1 h
  simpa using this
theorem endsL_is (l : List UInt8) : endsL l = endsR l := endsL_eq l.length l (Nat.le_refl _)
theorem txt_endsL {l : List UInt8} (h : Txt l) : Txt (endsL l) := by
  obtain ⟨rs, h1, rfl⟩ := h
  rw [endsL_is]
  exact txt_ends rs h1
theorem narrowL_no {l : List UInt8} (h : ∀ c ∈ l, c ≠ 13) : ∀ c ∈ narrowL l, c ≠ 13 := by
  unfold narrowL Lib.trimPrefix
  split
  · exact fun c hc => h c (List.mem_of_mem_drop hc)
  · exact h
/-- A text without 13 is decoded as it is, but for the mark. -/
theorem decodeAll_txt (s : ByteArray) (ht : Txt s.data.toList) (h13 : ∀ c ∈ s.data.toList, c ≠ 13) (hs : s.size ≤ 32768) :
    decodeAll s = .tuple #[.string ⟨(narrowL s.data.toList).toArray⟩, .int .i64 0, .int .i64 0] := by
  unfold decodeAll
  rw [if_neg (by omega), if_neg (by rw [txt_first ht 254 255 (by decide)]; decide), if_neg (by rw [txt_first ht 255 254 (by decide)]; decide)]
  unfold decodedV
  rw [if_pos (fault_of_txt _ (txt_narrow ht)), endsL_is, endsR_plain _ (narrowL_no h13)]
theorem toArray_data (s : ByteArray) : (⟨s.data.toList.toArray⟩ : ByteArray) = s := by simp
theorem encBack_plain (s : ByteArray) (wide : Bool) (htext : textR s = true) (h13 : ∀ c ∈ s.data.toList, c ≠ 13) (hmark : Lib.hasPrefix s.data.toList [239, 187, 191] = false)
    (henc : (encV s wide).2 = 0) (hlen : (encV s wide).1.size ≤ 32768) : decodeAll (encV s wide).1 = .tuple #[.string s, .int .i64 0, .int .i64 0] := by
  have ht := txt_of_text s htext
  unfold encV at henc hlen ⊢
  by_cases hv : (!Lib.validD s.data.toList) = true
  · rw [if_pos hv] at henc; exact absurd henc (by decide)
  · rw [if_neg hv] at henc hlen ⊢
    by_cases hb : 32768 < s.size
    · rw [if_pos hb] at henc; exact absurd henc (by decide)
    · rw [if_neg hb] at henc hlen ⊢
      cases wide
      · simp only [Bool.false_eq_true, if_false] at hlen ⊢
        rw [decodeAll_txt s ht h13 hlen]
        unfold narrowL Lib.trimPrefix
        rw [if_neg (by rw [hmark]; decide), toArray_data]
      · simp only [if_true] at hlen ⊢
        obtain ⟨rs, h1, h2⟩ := ht
        have hw := wide_txt s rs (s.size + 1) 0 (by omega) (by simpa using h2) h1
        have he : encW s = [254, 255] ++ rs.flatMap wideR := by unfold encW; rw [hw]
        rw [he] at hlen ⊢
        unfold decodeAll
        rw [if_neg (by omega), if_pos (by simp [Lib.hasPrefix])]
        have hd : decW ⟨([254, 255] ++ rs.flatMap wideR).toArray⟩ false = (rs.flatMap runeB, 0, 0) := by
          unfold decW
          rw [dec_back _ rs _ 2 [] (by omega) (by simp) h1]
          rfl
        rw [hd]
        unfold decEnd
        simp only [if_true]
        rw [← h2, endsL_is, endsR_plain _ h13, toArray_data]
/-- What Decode tells: an error and no text, or a text without 13. -/
theorem dec_cases (t : ByteArray) : (∃ e p, e ≠ 0 ∧ decodeAll t = .tuple #[.string ⟨#[]⟩, .int .i64 e, .int .i64 p]) ∨
    (∃ l, Txt l ∧ (∀ c ∈ l, c ≠ 13) ∧ l.length ≤ 200000 ∧ decodeAll t = .tuple #[.string ⟨l.toArray⟩, .int .i64 0, .int .i64 0]) := by
  have wide : ∀ high, t.size ≤ 32768 → (∃ e p, e ≠ 0 ∧ decEnd (decW t high) = .tuple #[.string ⟨#[]⟩, .int .i64 e, .int .i64 p]) ∨
    (∃ l, Txt l ∧ (∀ c ∈ l, c ≠ 13) ∧ l.length ≤ 200000 ∧ decEnd (decW t high) = .tuple #[.string ⟨l.toArray⟩, .int .i64 0, .int .i64 0]) := by
    intro high hs
    have hlen := decW_len t high
    have htx : (decW t high).2.1 = 0 → Txt (decW t high).1 := dec_txt t high _ _ _ txt_nil
    generalize decW t high = x at *
    unfold decEnd
    by_cases h0 : x.2.1 = 0
    · rw [if_pos h0]
      refine .inr ⟨endsL x.1, txt_endsL (htx h0), by rw [endsL_is]; exact endsR_no _, ?_, rfl⟩
      have := endsL_le x.1
      omega
    · rw [if_neg h0]
      exact .inl ⟨_, _, h0, rfl⟩
  unfold decodeAll
  by_cases hb : 32768 < t.size
  · rw [if_pos hb]
    exact .inl ⟨6, 0, by decide, rfl⟩
  · rw [if_neg hb]
    by_cases h1 : Lib.hasPrefix t.data.toList [254, 255] = true
    · rw [if_pos h1]; exact wide false (by omega)
    · rw [if_neg h1]
      by_cases h2 : Lib.hasPrefix t.data.toList [255, 254] = true
      · rw [if_pos h2]; exact wide true (by omega)
      · rw [if_neg h2]
        have hn := narrowL_le t.data.toList
        have hl : t.data.toList.length = t.size := rfl
        generalize narrowL t.data.toList = l at *
        unfold decodedV
        by_cases h0 : (fault ⟨l.toArray⟩).1 = 0
        · rw [if_pos h0]
          refine .inr ⟨endsL l, txt_endsL (txt_of_fault l h0), by rw [endsL_is]; exact endsR_no _, ?_, rfl⟩
          have := endsL_le l
          omega
        · rw [if_neg h0]
          exact .inl ⟨_, _, h0, rfl⟩
end Go.Proofs.YtiembljlhmgpjaaGreatDoor
/- Tokens that lead somewhere from a document's beginning, in plain terms: for the law XmlscanAgain. -/
namespace Go.Proofs.YtiembljlhmgpjaaGreatDoor
/-- Tokens read from the beginning: what is open behind them, whether there was an element, the last one's kind. -/
inductive DocS : List XTok → List (List Nat) → Bool → Nat → Prop
  | start : DocS [] [] false 0
  | elem (n : List Nat) (a : List (List Nat × List Nat)) (o : List (List Nat)) (r : Bool) (k : Nat) (ts : List XTok) (hs : DocS ts o r k) (h : OkTok ⟨2, n, a, []⟩) (hr : o = [] → r = false) (ho : o.length < 32) (ha : a.length ≤ 64) : DocS (ts ++ [⟨2, n, a, []⟩]) (o ++ [n]) true 2
  | fin (n : List Nat) (o : List (List Nat)) (r : Bool) (k : Nat) (ts : List XTok) (hs : DocS ts o r k) (h : OkTok ⟨7, n, [], []⟩) (ho : o.getLast? = some n) : DocS (ts ++ [⟨7, n, [], []⟩]) o.dropLast r 7
  | text (l : List Nat) (o : List (List Nat)) (r : Bool) (k : Nat) (ts : List XTok) (hs : DocS ts o r k) (h : OkTok ⟨4, [], [], l⟩) (ho : o ≠ []) (hk : k ≠ 4) : DocS (ts ++ [⟨4, [], [], l⟩]) o r 4
  | comment (l : List Nat) (o : List (List Nat)) (r : Bool) (k : Nat) (ts : List XTok) (hs : DocS ts o r k) (h : OkTok ⟨5, [], [], l⟩) : DocS (ts ++ [⟨5, [], [], l⟩]) o r 5
  | pi (n l : List Nat) (o : List (List Nat)) (r : Bool) (k : Nat) (ts : List XTok) (hs : DocS ts o r k) (h : OkTok ⟨6, n, [], l⟩) : DocS (ts ++ [⟨6, n, [], l⟩]) o r 6
theorem DocS.on {ts : List XTok} {o : List (List Nat)} {r : Bool} {k : Nat} (h : DocS ts o r k) : ∀ us, DocT o r k us → DocT [] false 0 (ts ++ us) := by
  induction h with
  | start => exact fun us h => h
  | elem n a o r k ts hs h hr ho ha ih => intro us hu; rw [List.append_assoc]; exact ih _ (.elem n a o r k us h hr ho ha hu)
  | fin n o r k ts hs h ho ih => intro us hu; rw [List.append_assoc]; exact ih _ (.fin n o r k us h ho hu)
  | text l o r k ts hs h ho hk ih => intro us hu; rw [List.append_assoc]; exact ih _ (.text l o r k us h ho hk hu)
  | comment l o r k ts hs h ih => intro us hu; rw [List.append_assoc]; exact ih _ (.comment l o r k us h hu)
  | pi n l o r k ts hs h ih => intro us hu; rw [List.append_assoc]; exact ih _ (.pi n l o r k us h hu)
theorem DocS.all {ts : List XTok} {k : Nat} (h : DocS ts [] true k) : DocT [] false 0 ts := by
  have := h.on [] (.done k)
  rwa [List.append_nil] at this
/-- What a reader has told leads to where it stands. -/
def Told (s : RS) (r : Bool) : Prop := ∃ k, DocS s.toks s.opn r k ∧ k ≠ 4 ∧ (s.run ≠ [] → s.opn ≠ [])
theorem Told.flush {s : RS} {r : Bool} (h : Told s r) : ∃ k, DocS s.flush.toks s.opn r k := by
  obtain ⟨k, h1, h2, h3⟩ := h
  by_cases hr : s.run = []
  · rw [(flush_eq s).1 hr]; exact ⟨k, h1⟩
  · rw [(flush_eq s).2 hr]
    exact ⟨4, .text s.run s.opn r k s.toks h1 (.text _ hr) (h3 hr) h2⟩
/-- A token told, where it may stand. -/
theorem Told.tell {s s' : RS} {r r' : Bool} {t : XTok} {at' : Nat} (h : Told s r) (ht : s.tell t at' = .ok s') (o' : List (List Nat)) (hk : t.kind ≠ 4) (hs : ∀ ts k, DocS ts s.opn r k → DocS (ts ++ [t]) o' r' t.kind) :
    Told { s' with opn := o' } r' ∧ s'.run = [] := by
  obtain ⟨k, hf⟩ := h.flush
  unfold RS.tell at ht
  split at ht
  · cases ht
  · cases ht
    have hrun : s.flush.run = [] := by
      by_cases hr : s.run = []
      · rw [(flush_eq s).1 hr]; exact hr
      · rw [(flush_eq s).2 hr]
    exact ⟨⟨t.kind, hs _ k hf, hk, fun hx => absurd hrun hx⟩, hrun⟩
end Go.Proofs.YtiembljlhmgpjaaGreatDoor
