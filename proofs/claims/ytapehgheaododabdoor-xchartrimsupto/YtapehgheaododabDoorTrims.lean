/- XcharTrims: the reference's Trim, and the law. -/
import Derived.Test.YtapehgheaododabDoorTrimPlain
import Derived.Test.YtapehgheaododabDoorOwnBytes
import Derived.Test.YtapehgheaododabDoorRefBlank
namespace Go.Proofs.YtapehgheaododabDoor
open Go.RowKit
def trTo (s : ByteArray) (k : Nat) : List UInt8 × Bool := (s.data.toList.take k).foldl trStep ([], false)
theorem trTo_succ (s : ByteArray) (k : Nat) (h : k < s.size) : trTo s (k + 1) = trStep (trTo s k) (s.get! k) := by
  have hl : s.data.toList.length = s.size := rfl
  unfold trTo
  rw [List.take_succ_eq_append_getElem (by omega), List.foldl_append, get_data s k h]
  rfl
theorem trTo_all (s : ByteArray) : (trTo s s.size).1 = trimU s.data.toList := by
  have hl : s.data.toList.length = s.size := rfl
  unfold trTo trimU
  rw [List.take_of_length_le (by omega)]
theorem trTo_len (s : ByteArray) (k : Nat) : (trTo s k).1.length ≤ 2 * k := by
  have := trimU_le (s.data.toList.take k) [] false
  have h2 := List.length_take_le k s.data.toList
  simp only [List.length_nil] at this
  unfold trTo
  omega
set_option maxHeartbeats 1000000 in
theorem refTrim_any (s : ByteArray) (w : World) (hs : s.size ≤ 1048580) :
    Calls Tryd.prog 13 #[.string s] w fun e w' => e = .returned (.string ⟨(trimU s.data.toList).toArray⟩) ∧ Below w.heap.size w w' := by
  obtain ⟨i0, hi, hz0, hz1, hz2⟩ := info_parts (show (Tryd.prog.info? 5).map (fun i => (i.zero, i.size, i.bytes)) = some (some (.int .u8 0), 1, 1) by kernel_rfl)
  go_enter Tryd.func13, Tryd.ntmps13
  go_wp2_with fail
  go_loopw [3, 4, 5] (fun v b i wr => ∃ k : Nat, k ≤ s.size ∧ i = .int .i64 k ∧ b = .bool (trTo s k).2 ∧ wr.ownsRow w.heap.size 5 1 v (trTo s k).1.length (byteCells (trTo s k).1) ∧ Below w.heap.size w wr) (fun _ _ i _ => s.size - (intOf i).toNat)
  case atStart => exact ⟨0, Nat.zero_le _, rfl, rfl, World.ownsRow_nil _ _ _ _, Below.refl _ _⟩
  case round =>
    obtain ⟨k, hk, rfl, rfl, hown, hbr⟩ := hrel
    by_cases hlt : k < s.size
    · have hg : s.get! k = s[k] := by rw [get_data s k hlt]; rfl
      have hT := trTo_succ s k hlt
      rw [hg] at hT
      have HT := hide hT
      clear hT hg
      have hlen := trTo_len s k
      obtain ⟨ad, c, rfl⟩ := owns_slice hown
      generalize trTo s k = x at *
      obtain ⟨o, b⟩ := x
      simp only at hown hlen
      have hby : ((s[k].toNat : Nat) : Int) < 256 := by have := s[k].toNat_lt; omega
      have hw32 : wrap32 ((s[k].toNat : Nat) : Int) = (s[k].toNat : Nat) := by unfold wrap32; omega
      have hsz := hbr.size
      go_wp2_with fail
      refine (refIsBlank_any _ _).mono ?_
      rintro e w1 ⟨rfl, rfl⟩
      have hbk : blankU s[k] = blankB (s[k].toNat : Nat) := rfl
      cases hbl : blankB ((s[k].toNat : Nat) : Int)
      · have hs1 := step_other (o, b) s[k] (by rw [hbk]; exact hbl)
        have HT' := hide ((unhide HT).trans hs1)
        clear hbk hbl hs1
        have hz : o.length ≤ 2 * k := hlen
        by_cases hsp : b = true ∧ 0 < o.length
        · obtain ⟨rfl, hpos⟩ := hsp
          have hpos' : (0 : Int) < (o.length : Int) := by omega
          have HO := hide (show o.isEmpty = false by cases o with | nil => simp at hpos | cons _ _ => rfl)
          go_wp2_with (first
            | (at_builtin; refine wpList_append_own _ rfl _ _ 29 rfl w.heap.size 5 i0 (.int .u8 0) 1 1 Tryd.underlying29 hi hz0 hz1 hz2 rfl (by decide) _ _ _ rfl (hown2.alloc _) ⟨w2.heap.size, 0, none⟩ 1 1 [.int .u8 (s[k].toNat : Nat)] rfl rfl (cell_one_new _ _ _) (fun x hx => by simp at hx; subst hx; rfl) (by unfold maxLen; omega) (by omega) (by have := hgrow2.size; simp at this ⊢; omega) ?_; intro v3 w3 hown3 hgrow3 hnil3)
            | (at_builtin; refine wpList_append_own _ rfl _ _ 29 rfl w.heap.size 5 i0 (.int .u8 0) 1 1 Tryd.underlying29 hi hz0 hz1 hz2 rfl (by decide) _ _ _ rfl (hown.alloc _) ⟨w1.heap.size, 0, none⟩ 1 1 [.int .u8 32] rfl rfl (cell_one_new _ _ _) (fun x hx => by simp at hx; subst hx; rfl) (by unfold maxLen; omega) (by omega) (by simp; omega) ?_; intro v2 w2 hown2 hgrow2 hnil2))
          have e1 : trTo s (k + 1) = ((o ++ [32]) ++ [s[k]], false) := by rw [unhide HT', unhide HO]; rfl
          have b2 := Below.grown (hbr.alloc hsz _) hgrow2 (by simp; omega) (owns_ge hown)
          have b3 := Below.grown (b2.alloc b2.size _) hgrow3 (by have := b2.size; simp; omega) (owns_ge hown2)
          refine ⟨⟨k + 1, by omega, by go_num, by rw [e1], ?_, b3⟩, by simp [intOf]; omega⟩
          rw [e1]
          simpa [byteCells] using hown3
        · have e1 : trTo s (k + 1) = (o ++ [s[k]], false) := by
            rw [unhide HT']
            show ((if b && !o.isEmpty then o ++ [32] else o) ++ [s[k]], false) = _
            cases b
            · simp
            · cases o with
              | nil => simp
              | cons _ _ => exact absurd ⟨rfl, by simp⟩ hsp
          have E1 := hide e1
          clear e1
          cases b
          · clear hsp
            go_wp2_with (at_builtin; refine wpList_append_own _ rfl _ _ 29 rfl w.heap.size 5 i0 (.int .u8 0) 1 1 Tryd.underlying29 hi hz0 hz1 hz2 rfl (by decide) _ _ _ rfl (hown.alloc _) ⟨w1.heap.size, 0, none⟩ 1 1 [.int .u8 (s[k].toNat : Nat)] rfl rfl (cell_one_new _ _ _) (fun x hx => by simp at hx; subst hx; rfl) (by unfold maxLen; omega) (by omega) (by simp; omega) ?_; intro v2 w2 hown2 hgrow2 hnil2)
            have b2 := Below.grown (hbr.alloc hsz _) hgrow2 (by simp; omega) (owns_ge hown)
            refine ⟨⟨k + 1, by omega, by go_num, by rw [unhide E1], ?_, b2⟩, by simp [intOf]; omega⟩
            rw [unhide E1]
            simpa [byteCells] using hown2
          · have ho : o = [] := by
              cases o with
              | nil => rfl
              | cons _ _ => exact absurd ⟨rfl, by simp⟩ hsp
            subst ho
            clear hsp
            simp only [List.length_nil] at hown
            go_wp2_with (at_builtin; refine wpList_append_own _ rfl _ _ 29 rfl w.heap.size 5 i0 (.int .u8 0) 1 1 Tryd.underlying29 hi hz0 hz1 hz2 rfl (by decide) _ _ _ rfl (hown.alloc _) ⟨w1.heap.size, 0, none⟩ 1 1 [.int .u8 (s[k].toNat : Nat)] rfl rfl (cell_one_new _ _ _) (fun x hx => by simp at hx; subst hx; rfl) (by unfold maxLen; omega) (by omega) (by simp; omega) ?_; intro v2 w2 hown2 hgrow2 hnil2)
            have b2 := Below.grown (hbr.alloc hsz _) hgrow2 (by simp; omega) (owns_ge hown)
            refine ⟨⟨k + 1, by omega, by go_num, by rw [unhide E1], ?_, b2⟩, by simp [intOf]; omega⟩
            rw [unhide E1]
            simpa [byteCells] using hown2
      · have hs1 := step_blank (o, b) s[k] (by rw [hbk]; exact hbl)
        have HT' := hide ((unhide HT).trans hs1)
        clear hbk hbl hs1
        go_wp2
        refine ⟨⟨k + 1, by omega, by go_num, by rw [unhide HT'], ?_, hbr⟩, by simp [intOf]; omega⟩
        rw [unhide HT']
        exact hown
    · have hke : k = s.size := by omega
      subst hke
      rw [trTo_all] at hown
      have hcv := conv_owned hown
      clear hown
      go_wp2
      go_ret
      exact ⟨rfl, hbr⟩
theorem around_data (s : ByteArray) : ((⟨#[32]⟩ : ByteArray) ++ s ++ ⟨#[10]⟩).data.toList = 32 :: (s.data.toList ++ [10]) := by
  rw [ByteArray.data_append, ByteArray.data_append]
  simp
theorem around_size (s : ByteArray) : ((⟨#[32]⟩ : ByteArray) ++ s ++ ⟨#[10]⟩).size = 1 + s.size + 1 := by
  rw [ByteArray.size_append, ByteArray.size_append]; rfl
set_option maxHeartbeats 1000000 in
theorem trims_walk (s : ByteArray) (w : World) (hE : Env w) (hs : s.size ≤ 1048576) :
    Calls Tryd.prog 5 #[.string s] w fun e w' => e = .returned (.bool true) ∧ Below w.heap.size w w' := by
  have HE := hide hE
  clear hE
  have hl : s.data.toList.length = s.size := rfl
  have hlen := trimU_len s.data.toList
  go_enter Tryd.func5, Tryd.ntmps5
  go_wp2_with fail
  refine (trim_is s _ (by omega)).mono ?_
  rintro e w1 ⟨rfl, hb1⟩
  have HE1 := hide ((unhide HE).below hb1)
  go_wp2_with fail
  refine (live_any _ (unhide HE1)).mono ?_
  rintro e w2 ⟨rfl, hb2⟩
  have HE2 := hide ((unhide HE1).below hb2)
  go_wp2_with fail
  refine (refTrim_any s _ (by omega)).mono ?_
  rintro e w3 ⟨rfl, hb3⟩
  go_wp2_with fail
  refine (trim_is ⟨(trimU s.data.toList).toArray⟩ _ (by rw [size_mk]; omega)).mono ?_
  rintro e w4 ⟨rfl, hb4⟩
  rw [show trimU (ByteArray.mk (trimU s.data.toList).toArray).data.toList = trimU s.data.toList from trimU_again s.data.toList]
  go_wp2_with fail
  refine (trim_is _ _ ?_).mono ?_
  · have := around_size s
    omega
  rintro e w5 ⟨rfl, hb5⟩
  rw [around_data, trimU_around]
  go_wp2
  go_ret
  exact ⟨ret_bool (by simp), Below.then hb1 (Below.then hb2 (Below.then hb3 (Below.then hb4 hb5)))⟩
end Go.Proofs.YtapehgheaododabDoor
