/- A text without blanks at its ends is trimmed to itself; a text is cut at its point. -/
import Derived.Test.YtmaefnmjfkbplaaGreatDoorNumDigits
import Derived.Shelf.GgClosure.StringsRunes
namespace Go.Proofs.YtmaefnmjfkbplaaGreatDoor
open Go.RowKit
theorem extract_all (s : ByteArray) : s.extract 0 s.size = s := by
  apply ByteArray.ext
  rw [ByteArray.data_extract]
  exact Array.extract_size
theorem trimF_same (p : Nat → Bool) (s : ByteArray) (h0 : 0 < s.size) (ha : ∀ i (h : i < s.size), (s[i]'h).toNat < 128) (hf : p (s[0]'h0).toNat = false) (hl : p (s[s.size - 1]'(by omega)).toNat = false) : Lib.trimF p s = s := by
  have hleft : Lib.trimLeftF p s = s := by
    have hi : Lib.idxFunc p false s = 0 := by
      unfold Lib.idxFunc
      obtain ⟨n, hn⟩ : ∃ n, s.size = n + 1 := ⟨s.size - 1, by omega⟩
      rw [hn, Lib.idxFuncFrom, if_pos h0, decode_ascii s 0 h0 (ha 0 h0), if_pos hf]
      rfl
    unfold Lib.trimLeftF
    rw [hi, if_neg (by decide)]
    exact extract_all s
  unfold Lib.trimF
  rw [hleft]
  have hlen : s.data.toList.length = s.size := rfl
  have hlast : s.data.toList.getD (s.data.toList.length - 1) 0 = s[s.size - 1]'(by omega) := by
    rw [List.getD_eq_getElem?_getD, List.getElem?_eq_getElem (by omega)]
    rfl
  have hi : Lib.lastIdxFunc p false s = ((s.size - 1 : Nat) : Int) := by
    unfold Lib.lastIdxFunc
    obtain ⟨n, hn⟩ : ∃ n, s.size = n + 1 := ⟨s.size - 1, by omega⟩
    have ht : s.data.toList.take s.size = s.data.toList := List.take_of_length_le (by omega)
    have hd : Lib.decodeLastL s.data.toList = ((s[s.size - 1]'(by omega)).toNat, 1) := by
      unfold Lib.decodeLastL
      rw [if_neg (by intro e; rw [e] at hlen; simp at hlen; omega), hlast, if_pos (ha _ _)]
    rw [show Lib.lastIdxFuncFrom p false s s.size s.size = Lib.lastIdxFuncFrom p false s (n + 1) s.size by rw [← hn], Lib.lastIdxFuncFrom, if_pos h0, ht, hd, if_pos hl]
  have he : Lib.rightEndF p s = s.size := by
    unfold Lib.rightEndF
    rw [hi, if_pos (by omega), Int.toNat_natCast]
    have hsz : (s.extract (s.size - 1) s.size).size = 1 := by rw [ByteArray.size_extract]; omega
    unfold Lib.decodeGoB
    rw [if_neg (by omega), decode_ascii _ 0 (by omega) (by rw [ByteArray.getElem_extract]; exact ha _ _)]
    show s.size - 1 + 1 = s.size
    omega
  unfold Lib.trimRightF
  rw [he]
  exact extract_all s
theorem indexByte_at : ∀ (p r : List UInt8) (c : UInt8), c ∉ p → Lib.indexByte (p ++ c :: r) c = p.length
  | [], r, c, _ => by simp [Lib.indexByte]
  | x :: p, r, c, h => by
    have hx : ¬ (x == c) = true := fun e => h (by rw [beq_iff_eq.1 e]; simp)
    have ih := indexByte_at p r c (fun hm => h (List.mem_cons_of_mem _ hm))
    simp only [List.cons_append, Lib.indexByte, hx, ih]
    simp
theorem indexByte_no : ∀ (p : List UInt8) (c : UInt8), c ∉ p → Lib.indexByte p c = -1
  | [], c, _ => by simp [Lib.indexByte]
  | x :: p, c, h => by
    have hx : ¬ (x == c) = true := fun e => h (by rw [beq_iff_eq.1 e]; simp)
    have ih := indexByte_no p c (fun hm => h (List.mem_cons_of_mem _ hm))
    simp only [Lib.indexByte, hx, ih]
    simp
theorem cut_at (p r : List UInt8) (c : UInt8) (h : c ∉ p) : Lib.cut (p ++ c :: r) [c] = (p, r, true) := by
  unfold Lib.cut
  rw [Lib.index_one, indexByte_at p r c h, if_pos (by omega)]
  simp
theorem cut_no (p : List UInt8) (c : UInt8) (h : c ∉ p) : Lib.cut p [c] = (p, [], false) := by
  unfold Lib.cut
  rw [Lib.index_one, indexByte_no p c h, if_neg (by omega)]
theorem dig_ne {l : List UInt8} (h : l.all digB = true) (c : UInt8) (hc : digB c = false) : c ∉ l := fun hm => by
  have := List.all_eq_true.1 h c hm
  rw [hc] at this
  cases this
theorem dig_ascii {b : UInt8} (h : digB b = true) : b.toNat < 128 := by
  unfold digB at h
  simp at h
  omega
end Go.Proofs.YtmaefnmjfkbplaaGreatDoor
