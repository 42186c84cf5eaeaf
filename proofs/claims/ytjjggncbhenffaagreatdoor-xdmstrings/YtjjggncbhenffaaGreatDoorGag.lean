/- Several texts, laid as one. -/
import Derived.Test.YtjjggncbhenffaaGreatDoorGae
import Derived.Test.YtjjggncbhenffaaGreatDoorLexSame
import Derived.Test.YtjjggncbhenffaaGreatDoorGac
import Derived.Test.YtjjggncbhenffaaGreatDoorGad
import Derived.Test.YtjjggncbhenffaaGreatDoorGaa
/- The digits, the name that a text begins with: xplex's digitsAhead and nameAhead. -/
namespace Go.Proofs.YtjjggncbhenffaaGreatDoor
open Go.RowKit
theorem nameA_one {c : Nat} (h : begC c = true) : nameA [c] = [c] := by rw [nameA, if_pos h]; rfl
theorem nameA_snoc {p : List Nat} {c : Nat} (hp : nameA p = p) (h0 : p ≠ []) (hc : goC c = true) : nameA (p ++ [c]) = p ++ [c] := by
  cases p with
  | nil => exact absurd rfl h0
  | cons a t =>
    rw [nameA] at hp
    by_cases hb : begC a = true
    · rw [if_pos hb] at hp
      have ht : t.takeWhile goC = t := (List.cons.inj hp).2
      show nameA (a :: (t ++ [c])) = a :: (t ++ [c])
      rw [nameA, if_pos hb, List.takeWhile_append_of_pos (fun x hx => all_takeWhile goC t x (by rw [ht]; exact hx)), List.takeWhile_cons_of_pos hc]
      rfl
    · rw [if_neg hb] at hp; cases hp
end Go.Proofs.YtjjggncbhenffaaGreatDoor
/- A text's tokens: where they stand, and that they are read again as they were if they are parted by blanks: plain lemmas. -/
namespace Go.Proofs.YtjjggncbhenffaaGreatDoor
/-- How a token stands in its characters. -/
def formed (t : Tok) : Prop := (t.kind = 2 ∧ ∃ q, (q = 34 ∨ q = 39) ∧ q ∉ t.text ∧ t.raw = q :: t.text ++ [q]) ∨ (t.kind = 7 ∧ t.raw = 36 :: t.text ∧ t.text ≠ [] ∧ ∀ c ∈ t.text, blankC c = false) ∨ (t.kind ≠ 2 ∧ t.kind ≠ 7 ∧ t.raw = t.text ∧ t.text ≠ [] ∧ ∀ c ∈ t.text, blankC c = false)
end Go.Proofs.YtjjggncbhenffaaGreatDoor
/- The number, the name, the string, the variable, the word that a text begins with: xplex's functions. -/
namespace Go.Proofs.YtjjggncbhenffaaGreatDoor
open Go.RowKit
theorem suf_drop {l a : List Nat} (h : a <+: l) : (T l).extract (T a).size (T l).size = T (l.drop a.length) := by
  obtain ⟨t, rfl⟩ := h
  rw [List.drop_left]; exact T_suf a t
theorem size_pre {l a : List Nat} (h : a <+: l) : (T a).size ≤ (T l).size := by
  obtain ⟨t, rfl⟩ := h
  rw [T_size, T_size, tx_len_app]; omega
theorem sz_cons {c : Nat} (hc : c < 128) (l : List Nat) : (T (c :: l)).size = 1 + (T l).size := by
  rw [T_size, T_size, tx_cons, List.length_append, runeB_one hc]; rfl
theorem sz_app (a b : List Nat) : (T (a ++ b)).size = (T a).size + (T b).size := by rw [T_size, T_size, T_size, tx_len_app]
theorem nil_T {l : List Nat} (h : l = []) : (T l).toList = [] := by rw [h, T_toList]; rfl
theorem ne_T {l : List Nat} (hl : okL l) (h : l ≠ []) : (T l).toList.isEmpty = false := by
  cases hx : (T l).toList with
  | nil => exact absurd ((T_empty hl).1 hx) h
  | cons _ _ => rfl
end Go.Proofs.YtjjggncbhenffaaGreatDoor
/- A name has no colon, so a prefix and a local name are parted at the colon between them. -/
namespace Go.Proofs.YtjjggncbhenffaaGreatDoor
open Go.RowKit
theorem indexByte_first : ∀ (p r : List UInt8) (c : UInt8), c ∉ p → Lib.indexByte (p ++ c :: r) c = p.length
  | [], r, c, _ => by simp [Lib.indexByte]
  | x :: p, r, c, h => by
    have hx : ¬ (x == c) = true := fun e => h (by rw [beq_iff_eq.1 e]; simp)
    have ih := indexByte_first p r c (fun hm => h (List.mem_cons_of_mem _ hm))
    simp only [List.cons_append, Lib.indexByte, hx, ih]
    simp
theorem cut_first (p r : List UInt8) (c : UInt8) (h : c ∉ p) : Lib.cut (p ++ c :: r) [c] = (p, r, true) := by
  unfold Lib.cut
  rw [Lib.index_one, indexByte_first p r c h, if_pos (by omega)]
  simp
end Go.Proofs.YtjjggncbhenffaaGreatDoor
/- Which characters may be, lie in one of some ranges, begin names and go on in them: the reference's IsChar, 'in', Begins and GoesOn. -/
namespace Go.Proofs.YtjjggncbhenffaaGreatDoor
open Go.RowKit
end Go.Proofs.YtjjggncbhenffaaGreatDoor
/- The reference's Bad, IsText, IsName and Split. -/
namespace Go.Proofs.YtjjggncbhenffaaGreatDoor
open Go.RowKit
def textB (s : ByteArray) : Bool := (fault s).1 == 0
set_option maxHeartbeats 1000000 in
theorem isText_any (s : ByteArray) (w : World) :
    Calls Tryz.prog 112 #[.string s] w fun e w' => e = .returned (.bool (textB s)) ∧ Below w.heap.size w w' := by
  go_enter Tryz.func112, Tryz.ntmps112
  go_wp2_with fail
  refine (firstFault_any s _).mono ?_
  rintro e w1 ⟨rfl, hb1⟩
  go_wp2
  all_goals
    go_ret
    exact ⟨ret_bool (by simp [textB, *]), hb1⟩
end Go.Proofs.YtjjggncbhenffaaGreatDoor
/- What the program takes for names and texts is what the reference takes for them: plain lemmas. -/
namespace Go.Proofs.YtjjggncbhenffaaGreatDoor
open Go.RowKit
theorem textB_eq (s : ByteArray) : textB s = textR s := text_eq s (s.size + 1) 0
theorem validD_at (s : ByteArray) (pos : Nat) (hp : pos < s.size) : Lib.validD (s.data.toList.drop pos) =
    if (Utf8.decode s pos).1 = 65533 ∧ (Utf8.decode s pos).2 = 1 then false else Lib.validD (s.data.toList.drop (pos + (Utf8.decode s pos).2)) := by
  have hne : s.data.toList.drop pos ≠ [] := by
    intro h
    have := congrArg List.length h
    rw [List.length_drop] at this
    have hl : s.data.toList.length = s.size := rfl
    simp only [List.length_nil] at this
    omega
  have e : Lib.decodeL (s.data.toList.drop pos) = Utf8.decode s pos := Lib.decodeL_drop s pos
  rw [Lib.validD_step _ hne, e, List.drop_drop]
theorem valid_name (s : ByteArray) : ∀ f pos, s.size < pos + f → nameFrom s f pos = true → decide ((badFrom s f pos).1 < 0) = Lib.validD (s.data.toList.drop pos)
  | 0, pos, hb, _ => by
    rw [List.drop_eq_nil_of_le (by show s.data.toList.length ≤ pos; have : s.data.toList.length = s.size := rfl; omega)]; rfl
  | f + 1, pos, hb, h => by
    have hd := decode_le s pos
    unfold badFrom
    by_cases hp : pos < s.size
    · have hw := width_pos s pos hp
      rw [if_pos hp, validD_at s pos hp]
      rw [nameFrom, if_pos hp] at h
      by_cases hc : (((pos : Int) == 0 && !beginB (Utf8.decode s pos).1) || !goesB (Utf8.decode s pos).1) = true
      · rw [if_pos hc] at h; cases h
      · rw [if_neg hc] at h
        have hg : goesB (Utf8.decode s pos).1 = true := by
          cases hg : goesB (Utf8.decode s pos).1
          · exact absurd (by simp [hg]) hc
          · rfl
        have hch := char_of_goes _ (by omega) hg
        rw [charB_eq _ (by omega)] at hch
        have ih := valid_name s f _ (by omega) h
        by_cases h1 : (Utf8.decode s pos).1 = 65533 ∧ (Utf8.decode s pos).2 = 1
        · rw [if_pos h1]
          simp [h1.1, h1.2]
        · rw [if_neg h1, ← ih]
          have h1' : (((Utf8.decode s pos).1 : Int) == 65533 && ((Utf8.decode s pos).2 : Int) == 1) = false := by
            rw [Bool.and_eq_false_iff]
            simp only [beq_eq_false_iff_ne, ne_eq]
            omega
          rw [h1', hch]
          simp
    · rw [if_neg hp, List.drop_eq_nil_of_le (by show s.data.toList.length ≤ pos; have : s.data.toList.length = s.size := rfl; omega)]; rfl
/-- The reference's names are the program's. -/
theorem nameB_eq (s : ByteArray) : nameB s = (textR s && !s.data.toList.isEmpty && nameFrom s (s.size + 1) 0) := by
  unfold nameB textR
  cases h : nameFrom s (s.size + 1) 0
  · simp
  · have := valid_name s (s.size + 1) 0 (by omega) h
    rw [List.drop_zero] at this
    rw [this]
    cases s.data.toList.isEmpty <;> simp
end Go.Proofs.YtjjggncbhenffaaGreatDoor
