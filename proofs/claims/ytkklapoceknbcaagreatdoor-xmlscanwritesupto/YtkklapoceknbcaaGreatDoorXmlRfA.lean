/- The reference's find, lower and qname. -/
import Derived.Test.YtkklapoceknbcaaGreatDoorXw
import Derived.Test.YtkklapoceknbcaaGreatDoorGr
import Derived.Lib.IndexBytes
namespace Go.Proofs.YtkklapoceknbcaaGreatDoor
open Go.RowKit
/-- No instance ahead of a place. -/
def noOcc (s sub : List UInt8) (i : Nat) : Prop := ∀ j, j < i → Lib.occAt s sub j = false
theorem none_found {s sub : ByteArray} {i : Nat} (h : noOcc s.data.toList sub.data.toList i) (hi : s.size < i + sub.size) (hs : 0 < sub.size) : Lib.contains s.data.toList sub.data.toList = false := by
  have h1 : Lib.index s.data.toList sub.data.toList = -1 := Lib.index_none fun j _ => by
    by_cases hj : j < i
    · exact h j hj
    · cases ho : Lib.occAt s.data.toList sub.data.toList j with
      | false => rfl
      | true =>
        rcases Lib.occAt_room ho with h2 | h2
        · have e1 : s.data.toList.length = s.size := rfl
          have e2 : sub.data.toList.length = sub.size := rfl
          omega
        · have e2 : sub.data.toList.length = sub.size := rfl
          rw [h2] at e2
          simp at e2
          omega
  unfold Lib.contains
  rw [h1]
  rfl
theorem one_found {s sub : ByteArray} {i : Nat} (h : noOcc s.data.toList sub.data.toList i) (hi : i ≤ s.size) (ho : Lib.occAt s.data.toList sub.data.toList i = true) : Lib.contains s.data.toList sub.data.toList = true := by
  have h1 := Lib.index_first (s := s.data.toList) (sub := sub.data.toList) (i := i) hi ho h
  unfold Lib.contains
  rw [h1]
  simp
set_option maxHeartbeats 2000000 in
theorem refFind_any (s t : ByteArray) (w : World) (hs : s.size ≤ 1048576) (ht : 0 < t.size) (ht2 : t.size ≤ 10) :
    Calls Tryz.prog 58 #[.string s, .string t, .int .i64 0] w fun e w' => (∃ j : Int, e = .returned (.int .i64 j) ∧ decide (j < 0) = !Lib.contains s.data.toList t.data.toList) ∧ w' = w := by
  go_enter Tryz.func58, Tryz.ntmps58
  go_wp2_with fail
  go_loopw [7] (fun i wr => ∃ k : Nat, i = .int .i64 (k : Nat) ∧ k ≤ s.size ∧ noOcc s.data.toList t.data.toList k ∧ wr = w) (fun i _ => s.size + 1 - (intOf i).toNat)
  case atStart => exact ⟨0, rfl, Nat.zero_le _, (fun j hj => by omega), rfl⟩
  case round =>
    obtain ⟨k, rfl, hk, hno, rfl⟩ := hrel
    have HNO := hide hno
    clear hno
    have e1 : wrap64 ((k : Int) + (t.size : Int)) = (k : Int) + (t.size : Int) := by unfold wrap64; omega
    by_cases hlt : k + t.size ≤ s.size
    · have n1 : (k : Int) + (t.size : Int) ≤ (s.size : Int) := by omega
      have n2 : (0 : Int) ≤ (k : Int) := by omega
      have n3 : (k : Int) ≤ (k : Int) + (t.size : Int) := by omega
      have e2 : ((k : Int) + (t.size : Int)).toNat = k + t.size := by omega
      have hoc := Lib.occ_of_piece s t k hlt
      cases ho : ((s.extract k (k + t.size)).toList == t.toList)
      · have HN2 : Hid (noOcc s.data.toList t.data.toList (k + 1)) := hide fun j hj => by
          by_cases h : j < k
          · exact unhide HNO j h
          · obtain rfl : j = k := by omega
            rw [hoc]; exact ho
        clear hoc HNO
        go_wp2_with fail
        go_round
        case measure => simp [intOf]; omega
        case rel => exact ⟨k + 1, by simp, by omega, unhide HN2, by first | rfl | trivial⟩
      · have HF : Hid (Lib.contains s.data.toList t.data.toList = true) := hide (one_found (unhide HNO) hk (by rw [hoc]; exact ho))
        clear hoc HNO
        go_wp2
        go_ret
        exact ⟨⟨(k : Nat), rfl, by rw [unhide HF]; simp⟩, rfl⟩
    · have n1 : ¬ (k : Int) + (t.size : Int) ≤ (s.size : Int) := by omega
      have HF : Hid (Lib.contains s.data.toList t.data.toList = false) := hide (none_found (unhide HNO) (by omega) ht)
      go_wp2
      go_ret
      exact ⟨⟨-1, rfl, by rw [unhide HF]; rfl⟩, rfl⟩
set_option maxHeartbeats 1000000 in
theorem refQname_any (s : ByteArray) (w : World) (hs : s.size ≤ 1048576) (hE : Env w) :
    Calls Tryz.prog 57 #[.string s] w fun e w' => e = .returned (.bool (qB s)) ∧ Below w.heap.size w w' := by
  obtain ⟨p, n, hv⟩ := splitV_cases s.data.toList
  have HV := hide hv
  have HS := hide (refSplit_any s w (by omega) hE)
  clear hv hE
  go_enter Tryz.func57, Tryz.ntmps57
  go_wp2_with fail
  refine (unhide HS).mono ?_
  rintro e w1 ⟨rfl, hb1⟩
  rw [unhide HV]
  go_wp2
  go_ret
  exact ⟨rfl, hb1⟩
def lowU (b : UInt8) : UInt8 := if 65 ≤ b.toNat ∧ b.toNat ≤ 90 then b + 32 else b
theorem lowU_nat (b : UInt8) : (lowU b).toNat = lowC b.toNat := by
  unfold lowU lowC
  by_cases h : 65 ≤ b.toNat ∧ b.toNat ≤ 90
  · rw [if_pos h, if_pos h, UInt8.toNat_add]
    show (b.toNat + 32) % 256 = _
    omega
  · rw [if_neg h, if_neg h]
theorem lowU_xml (s : List UInt8) : (s.map lowU == [120, 109, 108]) = (s.map (fun b => lowC b.toNat) == [120, 109, 108]) := by
  have e1 : s.map (fun b => lowC b.toNat) = (s.map lowU).map UInt8.toNat := by
    rw [List.map_map]
    exact List.map_congr_left fun b _ => (lowU_nat b).symm
  rw [e1]
  generalize s.map lowU = l
  by_cases h : l = [120, 109, 108]
  · rw [h]; rfl
  · have h1 : (l == [120, 109, 108]) = false := beq_eq_false_iff_ne.2 h
    have h2 : (l.map UInt8.toNat == [120, 109, 108]) = false := beq_eq_false_iff_ne.2 fun hh => h (by
      have : l.map UInt8.toNat = ([120, 109, 108] : List UInt8).map UInt8.toNat := hh
      exact (List.map_inj_right (fun a b hab => UInt8.toNat_inj.1 hab)).1 this)
    rw [h1, h2]
set_option maxRecDepth 100000 in
set_option maxHeartbeats 4000000 in
theorem refLower_any (s : ByteArray) (w : World) (hs : s.size ≤ 1048576) :
    Calls Tryz.prog 60 #[.string s] w fun e w' => e = .returned (.string ⟨(s.data.toList.map lowU).toArray⟩) ∧ Below w.heap.size w w' := by
  have hi0 : (Tryz.prog.info? 5).map (fun i => (i.zero, i.size, i.bytes)) = some (some (.int .u8 0), 1, 1) := by kernel_rfl
  obtain ⟨i0, hi, hz0, hz1, hz2⟩ := info_parts hi0
  clear hi0
  go_enter Tryz.func60, Tryz.ntmps60
  go_wp2_with fail
  go_loopw [3, 4] (fun s3 i wr => ∃ k : Nat, i = .int .i64 (k : Nat) ∧ k ≤ s.size ∧ wr.ownsRow w.heap.size 5 1 s3 k (byteCells ((s.data.toList.take k).map lowU)) ∧ Below w.heap.size w wr) (fun _ i _ => s.size - (intOf i).toNat)
  case atStart => exact ⟨0, rfl, Nat.zero_le _, World.ownsRow_nil _ _ _ _, Below.refl _ _⟩
  case round =>
    obtain ⟨k, rfl, hk, hown, hbr⟩ := hrel
    by_cases hlt : k < s.size
    · obtain ⟨ad, c, rfl⟩ := owns_slice hown
      have hsz := hbr.size
      have hk1 : s.data.toList[k]? = some s[k] := List.getElem?_eq_getElem (l := s.data.toList) hlt
      have htk : byteCells ((s.data.toList.take (k + 1)).map lowU) = byteCells ((s.data.toList.take k).map lowU) ++ [.int .u8 ((lowU s[k]).toNat : Nat)] := by
        rw [List.take_add_one, hk1]
        simp [byteCells]
      have hlow := lowU_nat s[k]
      have n1 : (0 : Int) ≤ (k : Int) := by omega
      have n2 : (k : Int) < (s.size : Int) := by omega
      have h256 : s[k].toNat < 256 := s[k].toNat_lt
      by_cases hu : 65 ≤ s[k].toNat ∧ s[k].toNat ≤ 90
      · obtain ⟨u1, u2⟩ := hu
        have HTK : Hid (byteCells ((s.data.toList.take (k + 1)).map lowU) = byteCells ((s.data.toList.take k).map lowU) ++ [.int .u8 ((s[k].toNat : Int) + 32)]) := hide (by
          rw [htk, hlow]
          unfold lowC
          rw [if_pos ⟨u1, u2⟩]
          rfl)
        have d1 : (65 : Int) ≤ (s[k].toNat : Int) := by omega
        have d2 : (s[k].toNat : Int) ≤ 90 := by omega
        have d3 : IntKind.u8.wrap ((s[k].toNat : Int) + 32) = (s[k].toNat : Int) + 32 := by
          show ((s[k].toNat : Int) + 32) % 256 = _
          omega
        clear htk hlow hk1 u1 u2
        go_wp2_with (at_builtin; refine wpList_append_own _ rfl _ _ 43 rfl w.heap.size 5 i0 (.int .u8 0) 1 1 Tryz.underlying43 hi hz0 hz1 hz2 rfl (by decide) _ _ _ rfl (hown.alloc _) ⟨wr.heap.size, 0, none⟩ 1 1 [.int .u8 ((s[k].toNat : Int) + 32)] rfl rfl (cell_one_new _ _ _) (fun x hx => by simp at hx; subst hx; rfl) (by unfold maxLen; omega) (by omega) (by simp; omega) ?_; intro v2 w2 hown2 hgrow2 _)
        have b2 := Below.grown (hbr.alloc hsz _) hgrow2 (by simp; omega) (owns_ge hown)
        refine ⟨⟨k + 1, by go_num, by omega, ?_, b2⟩, by simp [intOf]; omega⟩
        rw [unhide HTK]
        exact hown2
      · have HTK : Hid (byteCells ((s.data.toList.take (k + 1)).map lowU) = byteCells ((s.data.toList.take k).map lowU) ++ [.int .u8 (s[k].toNat : Nat)]) := hide (by
          rw [htk, hlow]
          unfold lowC
          rw [if_neg hu])
        by_cases h65 : 65 ≤ s[k].toNat
        · have d1 : (65 : Int) ≤ (s[k].toNat : Int) := by omega
          have d2 : ¬ (s[k].toNat : Int) ≤ 90 := by omega
          clear htk hlow hk1 hu h65
          go_wp2_with (at_builtin; refine wpList_append_own _ rfl _ _ 43 rfl w.heap.size 5 i0 (.int .u8 0) 1 1 Tryz.underlying43 hi hz0 hz1 hz2 rfl (by decide) _ _ _ rfl (hown.alloc _) ⟨wr.heap.size, 0, none⟩ 1 1 [.int .u8 (s[k].toNat : Nat)] rfl rfl (cell_one_new _ _ _) (fun x hx => by simp at hx; subst hx; rfl) (by unfold maxLen; omega) (by omega) (by simp; omega) ?_; intro v2 w2 hown2 hgrow2 _)
          have b2 := Below.grown (hbr.alloc hsz _) hgrow2 (by simp; omega) (owns_ge hown)
          refine ⟨⟨k + 1, by go_num, by omega, ?_, b2⟩, by simp [intOf]; omega⟩
          rw [unhide HTK]
          exact hown2
        · have d1 : ¬ (65 : Int) ≤ (s[k].toNat : Int) := by omega
          clear htk hlow hk1 hu h65
          go_wp2_with (at_builtin; refine wpList_append_own _ rfl _ _ 43 rfl w.heap.size 5 i0 (.int .u8 0) 1 1 Tryz.underlying43 hi hz0 hz1 hz2 rfl (by decide) _ _ _ rfl (hown.alloc _) ⟨wr.heap.size, 0, none⟩ 1 1 [.int .u8 (s[k].toNat : Nat)] rfl rfl (cell_one_new _ _ _) (fun x hx => by simp at hx; subst hx; rfl) (by unfold maxLen; omega) (by omega) (by simp; omega) ?_; intro v2 w2 hown2 hgrow2 _)
          have b2 := Below.grown (hbr.alloc hsz _) hgrow2 (by simp; omega) (owns_ge hown)
          refine ⟨⟨k + 1, by go_num, by omega, ?_, b2⟩, by simp [intOf]; omega⟩
          rw [unhide HTK]
          exact hown2
    · have hke : k = s.size := by omega
      subst hke
      rw [List.take_of_length_le (show s.data.toList.length ≤ s.size from Nat.le_refl _)] at hown
      have hl : ((s.data.toList.map lowU).length) = s.size := by rw [List.length_map]; rfl
      rw [← hl] at hown
      have hcv := conv_owned hown
      have n2 : ¬ (s.size : Int) < (s.size : Int) := by omega
      clear hown
      go_wp2
      go_ret
      exact ⟨rfl, hbr⟩
end Go.Proofs.YtkklapoceknbcaaGreatDoor
