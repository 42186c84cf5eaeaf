/- A number's text with blanks around it. -/
import Derived.Test.YtmaefnmjfkbplaaGreatDoorNumParseT
namespace Go.Proofs.YtmaefnmjfkbplaaGreatDoor
open Go.RowKit
theorem mk_get (l : List UInt8) (i : Nat) (h : i < (⟨l.toArray⟩ : ByteArray).size) : (⟨l.toArray⟩ : ByteArray)[i]'h = l[i]'(by rw [mk_size] at h; exact h) := by
  show l.toArray[i]'_ = _
  simp
/-- A space and a line feed ahead, a tab behind. -/
def aroundL (T : List UInt8) : List UInt8 := 32 :: 10 :: (T ++ [9])
theorem not_blank (b : UInt8) (h : 45 ≤ b.toNat) : blankP b.toNat = false := by
  unfold blankP blankC
  simp
  omega
theorem around_left (T : List UInt8) (h0 : T ≠ []) (hr : ∀ b ∈ T, 45 ≤ b.toNat ∧ b.toNat ≤ 122) : Lib.trimLeftF blankP ⟨(aroundL T).toArray⟩ = ⟨(T ++ [9]).toArray⟩ := by
  have hsz : (⟨(aroundL T).toArray⟩ : ByteArray).size = T.length + 3 := by rw [mk_size]; simp [aroundL]
  have hpos : 0 < T.length := List.length_pos_iff.2 h0
  have g0 : (⟨(aroundL T).toArray⟩ : ByteArray)[0]'(by omega) = 32 := by rw [mk_get]; simp [aroundL]
  have g1 : (⟨(aroundL T).toArray⟩ : ByteArray)[1]'(by omega) = 10 := by rw [mk_get]; simp [aroundL]
  have g2 : (⟨(aroundL T).toArray⟩ : ByteArray)[2]'(by omega) = T[0]'hpos := by rw [mk_get]; simp [aroundL, List.getElem_append_left hpos]
  have hT0 := hr _ (List.getElem_mem hpos)
  have hi : Lib.idxFunc blankP false ⟨(aroundL T).toArray⟩ = 2 := by
    unfold Lib.idxFunc
    rw [show Lib.idxFuncFrom blankP false ⟨(aroundL T).toArray⟩ (⟨(aroundL T).toArray⟩ : ByteArray).size 0 = Lib.idxFuncFrom blankP false ⟨(aroundL T).toArray⟩ (T.length + 2 + 1) 0 by rw [hsz], Lib.idxFuncFrom, if_pos (by omega), decode_ascii _ 0 (by omega) (by rw [g0]; decide), g0, if_neg (by decide)]
    rw [show T.length + 2 = T.length + 1 + 1 by omega, Lib.idxFuncFrom, if_pos (by show 0 + 1 < _; omega)]
    rw [show (0 + ((32 : UInt8).toNat, 1).2 : Nat) = 1 from rfl, decode_ascii _ 1 (by omega) (by rw [g1]; decide), g1, if_neg (by decide)]
    rw [Lib.idxFuncFrom, show (1 + ((10 : UInt8).toNat, 1).2 : Nat) = 2 from rfl, if_pos (by omega), decode_ascii _ 2 (by omega) (by rw [g2]; omega), g2, if_pos (not_blank _ hT0.1)]
    rfl
  unfold Lib.trimLeftF
  rw [hi, if_neg (by decide)]
  apply ByteArray.ext
  rw [ByteArray.data_extract]
  show Array.extract (aroundL T).toArray 2 (aroundL T).toArray.size = (T ++ [9]).toArray
  apply Array.ext'
  simp [aroundL]
  exact List.take_of_length_le (by simp)
theorem last_step (p : Nat → Bool) (s : ByteArray) (f i : Nat) (h0 : 0 < i) (hi : i ≤ s.size) (ha : (s[i - 1]'(by omega)).toNat < 128) : Lib.lastIdxFuncFrom p false s (f + 1) i = if p (s[i - 1]'(by omega)).toNat = false then ((i - 1 : Nat) : Int) else Lib.lastIdxFuncFrom p false s f (i - 1) := by
  have hlen : (s.data.toList.take i).length = i := by rw [List.length_take]; have : s.data.toList.length = s.size := rfl; omega
  have hd : Lib.decodeLastL (s.data.toList.take i) = ((s[i - 1]'(by omega)).toNat, 1) := by
    have hg : (s.data.toList.take i).getD ((s.data.toList.take i).length - 1) 0 = s[i - 1]'(by omega) := by
      rw [hlen, List.getD_eq_getElem?_getD, List.getElem?_eq_getElem (by omega), List.getElem_take]
      rfl
    unfold Lib.decodeLastL
    rw [if_neg (by intro e; rw [e] at hlen; simp at hlen; omega), hg, if_pos ha]
  rw [Lib.lastIdxFuncFrom, if_pos h0, hd]
theorem around_right (T : List UInt8) (h0 : T ≠ []) (hr : ∀ b ∈ T, 45 ≤ b.toNat ∧ b.toNat ≤ 122) : Lib.trimRightF blankP ⟨(T ++ [9]).toArray⟩ = ⟨T.toArray⟩ := by
  have hsz : (⟨(T ++ [9]).toArray⟩ : ByteArray).size = T.length + 1 := by rw [mk_size]; simp
  have hpos : 0 < T.length := List.length_pos_iff.2 h0
  have g1 : (⟨(T ++ [9]).toArray⟩ : ByteArray)[T.length]'(by omega) = 9 := by rw [mk_get]; simp
  have g2 : (⟨(T ++ [9]).toArray⟩ : ByteArray)[T.length - 1]'(by omega) = T[T.length - 1]'(by omega) := by rw [mk_get]; exact List.getElem_append_left (by omega)
  have hTl := hr _ (List.getElem_mem (show T.length - 1 < T.length by omega))
  have hi : Lib.lastIdxFunc blankP false ⟨(T ++ [9]).toArray⟩ = ((T.length - 1 : Nat) : Int) := by
    unfold Lib.lastIdxFunc
    rw [hsz, last_step _ _ _ _ (by omega) (by omega) (by simp only [Nat.add_sub_cancel, g1]; decide)]
    simp only [Nat.add_sub_cancel, g1]
    rw [if_neg (by decide)]
    obtain ⟨n, hn⟩ : ∃ n, T.length = n + 1 := ⟨T.length - 1, by omega⟩
    have hf : ∀ (s : ByteArray) (i : Nat), Lib.lastIdxFuncFrom blankP false s T.length i = Lib.lastIdxFuncFrom blankP false s (n + 1) i := fun s i => by rw [hn]
    rw [hf, last_step _ _ _ _ hpos (by omega) (by rw [g2]; omega), g2, if_pos (not_blank _ hTl.1)]
  have he : Lib.rightEndF blankP ⟨(T ++ [9]).toArray⟩ = T.length := by
    unfold Lib.rightEndF
    rw [hi, if_pos (by omega), Int.toNat_natCast]
    have hs2 : ((⟨(T ++ [9]).toArray⟩ : ByteArray).extract (T.length - 1) (⟨(T ++ [9]).toArray⟩ : ByteArray).size).size = 2 := by rw [ByteArray.size_extract]; omega
    unfold Lib.decodeGoB
    rw [if_neg (by omega), decode_ascii _ 0 (by omega) (by rw [ByteArray.getElem_extract]; simp only [Nat.add_zero]; rw [g2]; omega)]
    show T.length - 1 + 1 = T.length
    omega
  unfold Lib.trimRightF
  rw [he]
  apply ByteArray.ext
  rw [ByteArray.data_extract]
  show Array.extract (T ++ [9]).toArray 0 T.length = T.toArray
  apply Array.ext'
  simp
theorem around_trim (T : List UInt8) (h0 : T ≠ []) (hr : ∀ b ∈ T, 45 ≤ b.toNat ∧ b.toNat ≤ 122) : Lib.trimF blankP ⟨(aroundL T).toArray⟩ = ⟨T.toArray⟩ := by
  unfold Lib.trimF
  rw [around_left T h0 hr, around_right T h0 hr]
end Go.Proofs.YtmaefnmjfkbplaaGreatDoor
