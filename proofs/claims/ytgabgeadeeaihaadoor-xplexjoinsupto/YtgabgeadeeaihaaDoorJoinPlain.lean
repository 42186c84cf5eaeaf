/- A name has no colon, so a prefix and a local name are parted at the colon between them. -/
import Derived.Test.YtgabgeadeeaihaaDoorNames
import Derived.Test.YtgabgeadeeaihaaDoorBytesPlain
namespace Go.Proofs.YtgabgeadeeaihaaDoor
open Go.RowKit
theorem colon_no : goesB 58 = false := by decide +kernel
theorem nameFrom_colon (s : ByteArray) : ∀ (f pos : Nat), s.size < pos + f → nameFrom s f pos = true → ∀ i, pos ≤ i → i < s.size → (s.get! i).toNat ≠ 58
  | 0, pos, hb, _, i, h1, h2 => by omega
  | f + 1, pos, hb, h, i, h1, h2 => by
    have hp : pos < s.size := by omega
    obtain ⟨d1, d2, d3⟩ := decode_bytes s pos hp
    have hw := width_pos s pos hp
    rw [nameFrom, if_pos hp] at h
    by_cases hc : (((pos : Int) == 0 && !beginB (Utf8.decode s pos).1) || !goesB (Utf8.decode s pos).1) = true
    · rw [if_pos hc] at h; cases h
    · rw [if_neg hc] at h
      have hg : goesB (Utf8.decode s pos).1 = true := by
        cases hg : goesB (Utf8.decode s pos).1
        · exact absurd (by simp [hg]) hc
        · rfl
      by_cases hi : i < pos + (Utf8.decode s pos).2
      · intro h58
        by_cases he : i = pos
        · subst he
          rw [d1 (by omega)] at hg
          simp only [h58] at hg
          have := colon_no
          rw [show ((58 : Nat) : Int) = 58 from rfl, this] at hg
          cases hg
        · have := d2 (i - pos) (by omega) (by omega)
          rw [show pos + (i - pos) = i by omega] at this
          omega
      · exact nameFrom_colon s f _ (by omega) h i (by omega) h2
theorem name_colon (s : ByteArray) (h : nameB s = true) : 58 ∉ s.data.toList := by
  simp only [nameB, Bool.and_eq_true] at h
  intro hm
  obtain ⟨i, hi, he⟩ := List.getElem_of_mem hm
  have := nameFrom_colon s (s.size + 1) 0 (by omega) h.2 i (Nat.zero_le _) hi
  rw [get_data s i hi, he] at this
  exact this rfl
theorem indexByte_first : ∀ (p r : List UInt8) (c : UInt8), c ∉ p → Lib.indexByte (p ++ c :: r) c = p.length
  | [], r, c, _ => by simp [Lib.indexByte]
  | x :: p, r, c, h => by
    have hx : ¬ (x == c) = true := fun e => h (by rw [beq_iff_eq.1 e]; simp)
    have ih := indexByte_first p r c (fun hm => h (List.mem_cons_of_mem _ hm))
    simp only [List.cons_append, Lib.indexByte, hx, ih]
    simp
theorem cut_first (p r : List UInt8) (c : UInt8) (h : c ∉ p) : Lib.cut (p ++ c :: r) [c] = (p, r, true) := by
  unfold Lib.cut
  rw [Lib.index_one, indexByte_first p r c h, if_pos (by omega)]
  simp
theorem first_of : ∀ (a b : List UInt8), 58 ∈ a → ∃ p r, a ++ 58 :: b = p ++ 58 :: r ∧ 58 ∉ p ∧ 58 ∈ r
  | [], b, h => by cases h
  | x :: a, b, h => by
    by_cases hx : x = 58
    · subst hx
      exact ⟨[], a ++ 58 :: b, rfl, by simp, by simp⟩
    · have hm : 58 ∈ a := by
        rcases List.mem_cons.1 h with e | e
        · exact absurd e.symm hx
        · exact e
      obtain ⟨p, r, e, h1, h2⟩ := first_of a b hm
      exact ⟨x :: p, r, by rw [List.cons_append, e]; rfl, by simp [h1, Ne.symm hx], h2⟩
theorem mk_data (s : ByteArray) : (⟨s.data.toList.toArray⟩ : ByteArray) = s := by cases s; simp
theorem join_split (a b : ByteArray) : splitV (a.data.toList ++ 58 :: b.data.toList) =
    if nameB a && nameB b then .tuple #[.string a, .string b, .bool true] else .tuple #[.string ⟨#[]⟩, .string ⟨#[]⟩, .bool false] := by
  by_cases h : 58 ∈ a.data.toList
  · have na : nameB a = false := by
      cases hn : nameB a
      · rfl
      · exact absurd h (name_colon a hn)
    obtain ⟨p, r, e, h1, h2⟩ := first_of a.data.toList b.data.toList h
    have nr : nameB ⟨r.toArray⟩ = false := by
      cases hn : nameB ⟨r.toArray⟩
      · rfl
      · exact absurd h2 (name_colon ⟨r.toArray⟩ hn)
    have hs : splitB (a.data.toList ++ 58 :: b.data.toList) = false := by
      unfold splitB splitP splitN
      rw [e, cut_first p r 58 h1]
      simp [nr]
    unfold splitV
    rw [hs, na]
    rfl
  · have c := cut_first a.data.toList b.data.toList 58 h
    have hp : splitP (a.data.toList ++ 58 :: b.data.toList) = a.data.toList := by unfold splitP; rw [c]; rfl
    have hn : splitN (a.data.toList ++ 58 :: b.data.toList) = b.data.toList := by unfold splitN; rw [c]; rfl
    have hs : splitB (a.data.toList ++ 58 :: b.data.toList) = (nameB a && nameB b) := by
      unfold splitB
      rw [hp, hn, c, mk_data, mk_data]
      simp
    unfold splitV
    rw [hs, hp, hn, mk_data, mk_data]
theorem join_data (a b : ByteArray) : (a ++ ⟨#[58]⟩ ++ b).data.toList = a.data.toList ++ 58 :: b.data.toList := by
  rw [ByteArray.data_append, ByteArray.data_append]
  simp
theorem join_size (a b : ByteArray) : (a ++ ⟨#[58]⟩ ++ b).size = a.size + 1 + b.size := by
  rw [ByteArray.size_append, ByteArray.size_append]; rfl
end Go.Proofs.YtgabgeadeeaihaaDoor
