/- Characters are counted and cut: xchar's Count and Cut. -/
import Derived.Test.YtppkilblkobkhaaGreatDoorPosPlain
namespace Go.Proofs.YtppkilblkobkhaaGreatDoor
open Go.RowKit
theorem posAt_next (s : ByteArray) (k : Nat) (h : posAt s k < s.size) : posAt s k + (Utf8.decode s (posAt s k)).2 = posAt s (k + 1) := by
  show _ = stepAt s (posAt s k); unfold stepAt; rw [if_pos h]
/-- The characters from one to another. -/
def cutS (s : ByteArray) (a b : Int) : ByteArray := if b ≤ max a 0 then ⟨#[]⟩ else s.extract (posAt s (max a 0).toNat) (posAt s b.toNat)
/-- Where what is cut begins, as far as it is known ahead of the k-th character. -/
def firstAt (s : ByteArray) (m k : Nat) : Nat := if m < k then posAt s m else s.size
theorem firstAt_le (s : ByteArray) (m k : Nat) : firstAt s m k ≤ s.size := by
  unfold firstAt; split
  · exact posAt_le s m
  · exact Nat.le_refl _
set_option maxHeartbeats 1000000 in
theorem cut_any (s : ByteArray) (a b : Int) (w : World) (hs : s.size ≤ 9223372036854775807) :
    Calls Tryz.prog 85 #[.string s, .int .i64 a, .int .i64 b] w fun e w' => e = .returned (.string (cutS s a b)) ∧ Below w.heap.size w w' := by
  by_cases hba : b ≤ max a 0
  · go_enter Tryz.func85, Tryz.ntmps85
    go_wp2_with fail
    go_ret
    exact ⟨ret_str (by unfold cutS; rw [if_pos hba]), Below.refl _ _⟩
  · obtain ⟨m, hm⟩ := Int.eq_ofNat_of_zero_le (show 0 ≤ max a 0 by omega)
    obtain ⟨n, hn⟩ := Int.eq_ofNat_of_zero_le (show 0 ≤ b by omega)
    have hmn : m < n := by omega
    have hcs : cutS s a b = s.extract (posAt s m) (posAt s n) := by unfold cutS; rw [if_neg hba, hm, hn]; rfl
    have HC := hide hcs
    clear hcs
    subst hn
    go_enter Tryz.func85, Tryz.ntmps85
    go_wp2_with fail
    go_loopw [7, 8, 9] (fun f e p wr => ∃ k : Nat, k ≤ n ∧ p = .int .i64 k ∧ f = .int .i64 (firstAt s m k) ∧ e = .int .i64 s.size ∧ wr = w.iter s (posAt s k) ∧ ∀ j, j < k → posAt s j < s.size) (fun _ _ _ wr => s.size - wr.iterPos w.heap.size)
    case atStart => exact ⟨0, by omega, rfl, rfl, rfl, rfl, fun j hj => by omega⟩
    case round =>
      obtain ⟨k, hkn, rfl, rfl, rfl, rfl, hj⟩ := hrel
      have hge := posAt_ge s k hj
      have hfl := firstAt_le s m k
      have HJ := hide hj
      clear hj
      by_cases hp : posAt s k < s.size
      · have hnx : ∀ ty, (Instr.next (.pointer (some ⟨w.heap.size, 0, none⟩)) true ty).run Tryz.prog (w.iter s (posAt s k)) = _ := fun ty => run_next_any w s (posAt s k) ty hp
        rw [posAt_next s k hp] at hnx
        have hgt := step_gt s (posAt s k) hp
        have HE := hide (show posAt s (k + 1) = stepAt s (posAt s k) from rfl)
        have HK : Hid (∀ j, j < k + 1 → posAt s j < s.size) := fun j hj => by
          rcases Nat.lt_or_ge j k with h | h
          · exact unhide HJ j h
          · rw [show j = k by omega]; exact hp
        by_cases hkm : k = m
        · subst hkm
          have e1 : ((k : Int) == (k : Int)) = true := by simp
          have e2 : ((k : Int) == (n : Int)) = false := by simp; omega
          have HF := hide (show firstAt s k (k + 1) = posAt s k by unfold firstAt; rw [if_pos (by omega)])
          go_wp2
          go_roundw
          case rel => exact ⟨k + 1, by omega, by go_num, by rw [unhide HF], rfl, rfl, unhide HK⟩
          case measure =>
            have := unhide HE
            simp
            omega
        · have e1 : ((k : Int) == (m : Int)) = false := by simp; omega
          by_cases hkn' : k = n
          · subst hkn'
            have e2 : ((k : Int) == (k : Int)) = true := by simp
            have hf : firstAt s m k = posAt s m := by unfold firstAt; rw [if_pos hmn]
            have hmo := posAt_mono' s m k (by omega)
            rw [hf]
            clear hf hfl
            go_wp2
            go_ret
            exact ⟨ret_str (by rw [unhide HC]), (Below.refl _ _).alloc (Nat.le_refl _) _⟩
          · have e2 : ((k : Int) == (n : Int)) = false := by simp; omega
            have HF := hide (show firstAt s m (k + 1) = firstAt s m k by
              unfold firstAt
              by_cases h : m < k
              · rw [if_pos h, if_pos (by omega)]
              · rw [if_neg h, if_neg (by omega)])
            go_wp2
            go_roundw
            case rel => exact ⟨k + 1, by omega, by go_num, by rw [unhide HF], rfl, rfl, unhide HK⟩
            case measure =>
              have := unhide HE
              simp
              omega
      · have hnx : ∀ ty, (Instr.next (.pointer (some ⟨w.heap.size, 0, none⟩)) true ty).run Tryz.prog (w.iter s (posAt s k)) = _ := fun ty => run_next_end w s (posAt s k) ty hp
        have hn' : posAt s n = s.size := posAt_end' s k n hp hkn
        have hf : firstAt s m k = posAt s m := by
          unfold firstAt
          by_cases h : m < k
          · rw [if_pos h]
          · rw [if_neg h, posAt_end' s k m hp (by omega)]
        have hml := posAt_le s m
        have HN := hide hn'
        rw [hf]
        clear hf hfl hn'
        go_wp2
        go_ret
        exact ⟨ret_str (by rw [unhide HC, unhide HN]), (Below.refl _ _).alloc (Nat.le_refl _) _⟩
end Go.Proofs.YtppkilblkobkhaaGreatDoor
