/- Line ends, as the reference makes them one: its ends. -/
import Derived.Test.YtdoobohdddghbaaDoorEndsPlain
import Derived.Test.YtdoobohdddghbaaDoorOwnBytes
import Derived.Test.YtdoobohdddghbaaDoorBytesPlain
namespace Go.Proofs.YtdoobohdddghbaaDoor
open Go.RowKit
theorem drop_at (s : ByteArray) (k : Nat) (h : k < s.size) : s.data.toList.drop k = s[k] :: s.data.toList.drop (k + 1) := by
  rw [List.drop_eq_getElem_cons h]; rfl
theorem u8_ne (c : UInt8) (n : UInt8) (h : c ≠ n) : ((c.toNat : Int) == (n.toNat : Int)) = false := by
  rw [beq_eq_false_iff_ne]
  intro e
  exact h (UInt8.toNat_inj.1 (by omega))
theorem endsR_last (s : ByteArray) (k : Nat) (h : k < s.size) (h13 : s[k] = 13) (h10 : ∀ h : k + 1 < s.size, s[k + 1] ≠ 10) : endsR (s.data.toList.drop k) = 10 :: endsR (s.data.toList.drop (k + 1)) := by
  rw [drop_at s k h, h13]
  by_cases hk : k + 1 < s.size
  · rw [drop_at s (k + 1) hk, endsR, if_neg (fun x => h10 hk x.2)]; rfl
  · rw [List.drop_eq_nil_of_le (by show s.size ≤ k + 1; omega)]; rfl
set_option maxHeartbeats 1000000 in
theorem refEnds_any (s : ByteArray) (w : World) (hs : s.size ≤ 1000000000) :
    Calls Tryd.prog 27 #[.string s] w fun e w' => e = .returned (.string ⟨(endsR s.data.toList).toArray⟩) ∧ Below w.heap.size w w' := by
  obtain ⟨i0, hi, hz0, hz1, hz2⟩ := info_parts (show (Tryd.prog.info? 5).map (fun i => (i.zero, i.size, i.bytes)) = some (some (.int .u8 0), 1, 1) by kernel_rfl)
  go_enter Tryd.func27, Tryd.ntmps27
  go_wp2_with fail
  go_loopw [3, 4] (fun v i wr => ∃ (k : Nat) (l : List UInt8), k ≤ s.size ∧ i = .int .i64 k ∧ l.length ≤ k ∧ endsR s.data.toList = l ++ endsR (s.data.toList.drop k) ∧ wr.ownsRow w.heap.size 5 1 v l.length (byteCells l) ∧ Below w.heap.size w wr) (fun _ i _ => s.size - (intOf i).toNat)
  case atStart => exact ⟨0, [], Nat.zero_le _, rfl, Nat.le_refl _, rfl, World.ownsRow_nil _ _ _ _, Below.refl _ _⟩
  case round =>
    obtain ⟨k, l, hk, rfl, hll, he, hown, hbr⟩ := hrel
    by_cases hlt : k < s.size
    · obtain ⟨ad, c, rfl⟩ := owns_slice hown
      have hsz := hbr.size
      have HE := hide he
      clear he
      by_cases h13 : s[k] = 13
      · have t13 : ((s[k].toNat : Nat) : Int) = 13 := by rw [h13]; rfl
        by_cases h10 : ∃ h : k + 1 < s.size, s[k + 1] = 10
        · obtain ⟨hk1, h10⟩ := h10
          have t10 : ((s[k + 1].toNat : Nat) : Int) = 10 := by rw [h10]; rfl
          have hk1' : (k : Int) + 1 < (s.size : Int) := by omega
          have e1 : endsR s.data.toList = l ++ endsR (s.data.toList.drop (k + 1)) := by
            rw [unhide HE, drop_at s k hlt, drop_at s (k + 1) hk1, h13, h10, endsR, if_pos ⟨rfl, rfl⟩]
          have E1 := hide e1
          clear e1 h13 h10
          go_wp2
          exact ⟨⟨k + 1, l, by omega, by go_num, by omega, unhide E1, hown, hbr⟩, by simp [intOf]; omega⟩
        · have e1 : endsR s.data.toList = (l ++ [10]) ++ endsR (s.data.toList.drop (k + 1)) := by
            rw [unhide HE, endsR_last s k hlt h13 (fun h e => h10 ⟨h, e⟩), List.append_assoc]; rfl
          have E1 := hide e1
          clear e1 h13
          by_cases hk1 : k + 1 < s.size
          · have hk1' : (k : Int) + 1 < (s.size : Int) := by omega
            have t10 := u8_ne s[k + 1] 10 (fun e => h10 ⟨hk1, e⟩)
            rw [show (((10 : UInt8).toNat : Nat) : Int) = 10 from rfl] at t10
            clear h10
            go_wp2_with (at_builtin; refine wpList_append_own _ rfl _ _ 22 rfl w.heap.size 5 i0 (.int .u8 0) 1 1 Tryd.underlying22 hi hz0 hz1 hz2 rfl (by decide) _ _ _ rfl (hown.alloc _) ⟨wr.heap.size, 0, none⟩ 1 1 [.int .u8 10] rfl rfl (cell_one_new _ _ _) (fun x hx => by simp at hx; subst hx; rfl) (by unfold maxLen; omega) (by omega) (by simp; omega) ?_; intro v2 w2 hown2 hgrow2 hnil2)
            have b2 := Below.grown (hbr.alloc hsz _) hgrow2 (by simp; omega) (owns_ge hown)
            refine ⟨⟨k + 1, l ++ [10], by omega, by go_num, by simp; omega, unhide E1, ?_, b2⟩, by simp [intOf]; omega⟩
            simpa [byteCells] using hown2
          · have hk1' : ¬ (k : Int) + 1 < (s.size : Int) := by omega
            clear h10
            go_wp2_with (at_builtin; refine wpList_append_own _ rfl _ _ 22 rfl w.heap.size 5 i0 (.int .u8 0) 1 1 Tryd.underlying22 hi hz0 hz1 hz2 rfl (by decide) _ _ _ rfl (hown.alloc _) ⟨wr.heap.size, 0, none⟩ 1 1 [.int .u8 10] rfl rfl (cell_one_new _ _ _) (fun x hx => by simp at hx; subst hx; rfl) (by unfold maxLen; omega) (by omega) (by simp; omega) ?_; intro v2 w2 hown2 hgrow2 hnil2)
            have b2 := Below.grown (hbr.alloc hsz _) hgrow2 (by simp; omega) (owns_ge hown)
            refine ⟨⟨k + 1, l ++ [10], by omega, by go_num, by simp; omega, unhide E1, ?_, b2⟩, by simp [intOf]; omega⟩
            simpa [byteCells] using hown2
      · have t13 := u8_ne s[k] 13 h13
        rw [show (((13 : UInt8).toNat : Nat) : Int) = 13 from rfl] at t13
        have e1 : endsR s.data.toList = (l ++ [s[k]]) ++ endsR (s.data.toList.drop (k + 1)) := by
          rw [unhide HE, drop_at s k hlt, endsR_cons _ _ h13, List.append_assoc]; rfl
        have E1 := hide e1
        clear e1 h13
        go_wp2_with (at_builtin; refine wpList_append_own _ rfl _ _ 22 rfl w.heap.size 5 i0 (.int .u8 0) 1 1 Tryd.underlying22 hi hz0 hz1 hz2 rfl (by decide) _ _ _ rfl (hown.alloc _) ⟨wr.heap.size, 0, none⟩ 1 1 [.int .u8 (s[k].toNat : Nat)] rfl rfl (cell_one_new _ _ _) (fun x hx => by simp at hx; subst hx; rfl) (by unfold maxLen; omega) (by omega) (by simp; omega) ?_; intro v2 w2 hown2 hgrow2 hnil2)
        have b2 := Below.grown (hbr.alloc hsz _) hgrow2 (by simp; omega) (owns_ge hown)
        refine ⟨⟨k + 1, l ++ [s[k]], by omega, by go_num, by simp; omega, unhide E1, ?_, b2⟩, by simp [intOf]; omega⟩
        simpa [byteCells] using hown2
    · have hke : k = s.size := by omega
      subst hke
      rw [List.drop_eq_nil_of_le (show s.data.toList.length ≤ s.size from Nat.le_refl _)] at he
      have HE := hide (he.trans (List.append_nil l))
      have hcv := conv_owned hown
      clear hown he
      go_wp2
      go_ret
      exact ⟨ret_str (by rw [unhide HE]), hbr⟩
end Go.Proofs.YtdoobohdddghbaaDoor
